/- What stands at a place of a text, case by case; that what is answered is one thing. -/
import Derived.Test.YtnpjnmkmjcpjmaaDoorLex
set_option linter.unusedVariables false
namespace Go.Proofs.YtnpjnmkmjcpjmaaDoor
open Go.RowKit

theorem rest_cons (s : ByteArray) (p : Nat) (hp : p < s.size) : s.data.toList.drop p = s[p] :: s.data.toList.drop (p + 1) :=
  List.drop_eq_getElem_cons (show p < s.data.toList.length from hp)
theorem rest_nil (s : ByteArray) (p : Nat) (hp : s.size ≤ p) : s.data.toList.drop p = [] := List.drop_eq_nil_iff.2 hp

theorem lexStep_cons (c : UInt8) (r : List UInt8) (e : Bool) : lexStep (c :: r) e = if c.toNat = 10 then (if e then .tok 5 ⟨#[]⟩ 1 else .skip 1) else if blankB c.toNat then .skip 1 else if c.toNat = 47 ∧ r.head? = some 47 then .skip (lineLen (c :: r)) else tokStep (c :: r) := rfl
theorem step_end (s : ByteArray) (p : Nat) (e : Bool) (h : p = s.size ∨ ∃ hp : p < s.size, (s[p].toNat : Int) = 10) : lexStep (s.data.toList.drop p) e = if e then .tok 5 ⟨#[]⟩ 1 else .skip 1 := by
  rcases h with h | ⟨hp, h⟩
  · rw [rest_nil s p (by omega)]; rfl
  · rw [rest_cons s p hp]
    have : s[p].toNat = 10 := by omega
    rw [lexStep_cons, if_pos this]
theorem step_blank (s : ByteArray) (p : Nat) (e : Bool) (hp : p < s.size) (c : Int) (hc : (s[p].toNat : Int) = c) (h10 : c ≠ 10) (hb : blankB c = true) : lexStep (s.data.toList.drop p) e = .skip 1 := by
  rw [rest_cons s p hp]
  rw [lexStep_cons, if_neg (by omega), hc, if_pos hb]
theorem head_next (s : ByteArray) (p : Nat) : ((s.data.toList.drop (p + 1)).head? = some 47) ↔ ∃ h : p + 1 < s.size, (s[p + 1].toNat : Int) = 47 := by
  by_cases h : p + 1 < s.size
  · rw [rest_cons s (p + 1) h]
    simp only [List.head?_cons, Option.some.injEq]
    constructor
    · intro e; exact ⟨h, by rw [e]; rfl⟩
    · rintro ⟨_, e⟩
      have : s[p + 1].toNat = (47 : UInt8).toNat := by show s[p + 1].toNat = 47; omega
      exact UInt8.toNat_inj.1 this
  · rw [rest_nil s (p + 1) (by omega)]
    simp only [List.head?_nil]
    exact ⟨fun e => (by cases e), fun x => absurd x.1 h⟩
theorem step_comment (s : ByteArray) (p : Nat) (e : Bool) (hp : p < s.size) (c : Int) (hc : (s[p].toNat : Int) = c) (hb : blankB c = false) (h47 : c = 47) (h2 : ∃ h : p + 1 < s.size, (s[p + 1].toNat : Int) = 47) : lexStep (s.data.toList.drop p) e = .skip (lineLen (s.data.toList.drop p)) := by
  have hl := rest_cons s p hp
  rw [hl]
  rw [lexStep_cons, if_neg (by omega), hc, hb]
  rw [if_neg (by decide), if_pos ⟨by omega, (head_next s p).2 h2⟩]
theorem step_tok (s : ByteArray) (p : Nat) (e : Bool) (hp : p < s.size) (c : Int) (hc : (s[p].toNat : Int) = c) (h10 : c ≠ 10) (hb : blankB c = false) (h2 : ¬ (c = 47 ∧ ∃ h : p + 1 < s.size, (s[p + 1].toNat : Int) = 47)) : lexStep (s.data.toList.drop p) e = tokStep (s.data.toList.drop p) := by
  have hl := rest_cons s p hp
  rw [hl]
  rw [lexStep_cons, if_neg (by omega), hc, hb, if_neg (by decide), if_neg]
  rintro ⟨h47, hh⟩
  exact h2 ⟨by omega, (head_next s p).1 hh⟩

theorem rest_head (s : ByteArray) (p : Nat) (hp : p < s.size) (c : Int) (hc : (s[p].toNat : Int) = c) : (((s.data.toList.drop p).headD 0).toNat : Int) = c := by
  rw [rest_cons s p hp]; exact hc

theorem tok_semi (l : List UInt8) (c : Int) (hc : ((l.headD 0).toNat : Int) = c) (h : c = 59) : tokStep l = .tok 5 ⟨#[59]⟩ 1 := by
  unfold tokStep; rw [if_pos (by omega)]
theorem tok_word (l : List UInt8) (c : Int) (hc : ((l.headD 0).toNat : Int) = c) (h59 : c ≠ 59) (hl : letterB c = true) : tokStep l = if 40 < wlen l then .bad else .tok (if hasB kwWords (bs (l.take (wlen l))) then 3 else 1) (bs (l.take (wlen l))) (wlen l) := by
  unfold tokStep; rw [if_neg (by omega), hc, if_pos hl]
theorem tok_num (l : List UInt8) (c : Int) (hc : ((l.headD 0).toNat : Int) = c) (h59 : c ≠ 59) (hl : letterB c = false) (hd : digitB c = true) : tokStep l = if numT (l.take (wlen l)) then .tok 2 (bs (l.take (wlen l))) (wlen l) else .bad := by
  unfold tokStep; rw [if_neg (by omega), hc, hl, if_neg (by decide), if_pos hd]
theorem tok_op (l : List UInt8) (c : Int) (hc : ((l.headD 0).toNat : Int) = c) (h59 : c ≠ 59) (hl : letterB c = false) (hd : digitB c = false) : tokStep l = if (signAt l).size = 0 then .bad else .tok 4 (signAt l) (signAt l).size := by
  unfold tokStep; rw [if_neg (by omega), hc, hl, if_neg (by decide), hd, if_neg (by decide)]

theorem line_pos (s : ByteArray) (p : Nat) (hp : p < s.size) (c : Int) (hc : (s[p].toNat : Int) = c) (h : c = 47) : 0 < lineLen (s.data.toList.drop p) := by
  rw [rest_cons s p hp]
  have : ¬ s[p] = 10 := fun e => by rw [e] at hc; have : ((10 : UInt8).toNat : Int) = 10 := rfl; omega
  simp [lineLen, this]
theorem line_le (l : List UInt8) : lineLen l ≤ l.length := (List.takeWhile_sublist _).length_le
theorem sign_le (l : List UInt8) : (signAt l).size ≤ l.length := by
  unfold signAt
  cases hf : sgWords.find? fun g => g.data.toList.isPrefixOf l with
  | none => simp [ByteArray.size]
  | some g =>
    have := List.find?_some hf
    have := (List.isPrefixOf_iff_prefix.1 this).length_le
    have hg : g.data.toList.length = g.size := rfl
    simp only [Option.getD_some]; omega

/-- Every step goes on, and not beyond the place behind the end. -/
theorem step_adv (l : List UInt8) (e : Bool) : (∀ d, lexStep l e = .skip d → 1 ≤ d ∧ d ≤ max 1 l.length) ∧ (∀ k t d, lexStep l e = .tok k t d → 1 ≤ d ∧ d ≤ max 1 l.length) := by
  have hw := wlen_le l
  have hln := line_le l
  have hsg := sign_le l
  cases l with
  | nil => constructor <;> intros <;> simp only [lexStep] at * <;> split at * <;> simp_all
  | cons c r =>
    have hT : ∀ k t d, tokStep (c :: r) = .tok k t d → 1 ≤ d ∧ d ≤ max 1 (c :: r).length := by
      intro k t d h
      unfold tokStep at h
      split at h
      · cases h; simp
      split at h
      · rename_i hl
        have := wlen_pos (l := c :: r) (by unfold wordB; rw [hl]; rfl) (by simp)
        split at h
        · cases h
        · cases h; omega
      split at h
      · rename_i hd
        have := wlen_pos (l := c :: r) (by unfold wordB; rw [hd]; exact Bool.or_true _) (by simp)
        split at h
        · cases h; omega
        · cases h
      split at h
      · cases h
      · cases h; omega
    have hT2 : ∀ d, tokStep (c :: r) ≠ .skip d := by
      intro d h
      unfold tokStep at h
      repeat' (split at h)
      all_goals cases h
    constructor
    · intro d h
      rw [lexStep_cons] at h
      split at h
      · split at h
        · cases h
        · cases h; simp
      split at h
      · cases h; simp
      split at h
      · rename_i h3 h4
        cases h
        have : ¬ c = 10 := fun e => by rw [e] at h4; exact absurd h4.1 (by decide)
        have hp : 0 < lineLen (c :: r) := by simp [lineLen, this]
        omega
      · exact absurd h (hT2 d)
    · intro k t d h
      rw [lexStep_cons] at h
      split at h
      · split at h
        · cases h; simp
        · cases h
      split at h
      · cases h
      split at h
      · cases h
      · exact hT k t d h

/-- What is answered from a place on. -/
inductive From (s : List UInt8) : Nat → List Tok → Outcome → Prop
  | done {p : Nat} {acc : List Tok} : s.length < p → From s p acc ⟨acc, 0, 0⟩
  | bad {p : Nat} {acc : List Tok} : p ≤ s.length → lexStep (s.drop p) (endsL acc) = .bad → From s p acc ⟨[], 4, p⟩
  | many {p : Nat} {acc : List Tok} {k : Int} {t : ByteArray} {d : Nat} : p ≤ s.length → lexStep (s.drop p) (endsL acc) = .tok k t d → acc.length = 4000 → From s p acc ⟨[], 13, p⟩
  | skip {p : Nat} {acc : List Tok} {d : Nat} {o : Outcome} : p ≤ s.length → lexStep (s.drop p) (endsL acc) = .skip d → From s (p + d) acc o → From s p acc o
  | tok {p : Nat} {acc : List Tok} {k : Int} {t : ByteArray} {d : Nat} {o : Outcome} : p ≤ s.length → lexStep (s.drop p) (endsL acc) = .tok k t d → acc.length ≠ 4000 → From s (p + d) (acc ++ [⟨k, t, p⟩]) o → From s p acc o

theorem from_one {s : List UInt8} {p : Nat} {acc : List Tok} {o : Outcome} (h : From s p acc o) : ∀ {o' : Outcome}, From s p acc o' → o = o' := by
  induction h with
  | done hp =>
    intro o' h'
    cases h' with
    | done _ => rfl
    | bad h _ => omega
    | many h _ _ => omega
    | skip h _ _ => omega
    | tok h _ _ _ => omega
  | bad hp hs =>
    intro o' h'
    cases h' with
    | done h => omega
    | bad _ _ => rfl
    | many _ h _ => rw [hs] at h; cases h
    | skip _ h _ => rw [hs] at h; cases h
    | tok _ h _ _ => rw [hs] at h; cases h
  | many hp hs hl =>
    intro o' h'
    cases h' with
    | done h => omega
    | bad _ h => rw [hs] at h; cases h
    | many _ _ _ => rfl
    | skip _ h _ => rw [hs] at h; cases h
    | tok _ _ h _ => exact absurd hl h
  | skip hp hs _ ih =>
    intro o' h'
    cases h' with
    | done h => omega
    | bad _ h => rw [hs] at h; cases h
    | many _ h _ => rw [hs] at h; cases h
    | skip _ h h2 => rw [hs] at h; cases h; exact ih h2
    | tok _ h _ _ => rw [hs] at h; cases h
  | tok hp hs hl _ ih =>
    intro o' h'
    cases h' with
    | done h => omega
    | bad _ h => rw [hs] at h; cases h
    | many _ _ h => exact absurd h hl
    | skip _ h _ => rw [hs] at h; cases h
    | tok _ h _ h2 => rw [hs] at h; cases h; exact ih h2

theorem from_start {s : List UInt8} {p : Nat} {acc : List Tok} (h : Reach s p acc) : ∀ {o : Outcome}, acc.length ≤ 4000 → From s p acc o → From s 0 [] o := by
  induction h with
  | start => intro o _ h; exact h
  | skip _ hp hs ih => intro o hl h; exact ih hl (.skip hp hs h)
  | tok _ hp hs ih => intro o hl h; simp at hl; exact ih (by omega) (.tok hp hs (by omega) h)

theorem answers_from {s : List UInt8} {o : Outcome} (h : Answers s o) : From s 0 [] o := by
  cases h with
  | done h hl hp => exact from_start h hl (.done hp)
  | bad h hl hp hs => exact from_start h hl (.bad hp hs)
  | many h hl hp hs => exact from_start h (by omega) (.many hp hs hl)

/-- There is one answer. -/
theorem answers_one {s : List UInt8} {o o' : Outcome} (h : Answers s o) (h' : Answers s o') : o = o' := from_one (answers_from h) (answers_from h')

theorem reach_many {s : List UInt8} {p : Nat} {acc : List Tok} (h : Reach s p acc) : ∀ hl : 4000 < acc.length, Answers s ⟨[], 13, acc[4000].place⟩ := by
  induction h with
  | start => intro hl; simp at hl
  | skip _ _ _ ih => exact ih
  | @tok p acc k t d h hp hs ih =>
    intro hl
    by_cases h4 : 4000 < acc.length
    · have := ih h4
      rw [List.getElem_append_left h4]; exact this
    · have h5 : acc.length = 4000 := by simp at hl; omega
      have : (acc ++ [(⟨k, t, p⟩ : Tok)])[4000].place = p := by
        rw [List.getElem_append_right (by omega)]; simp [h5]
      rw [this]
      exact .many h h5 hp hs

theorem reach_le {s : List UInt8} {p : Nat} {acc : List Tok} (h : Reach s p acc) : p ≤ s.length + 1 := by
  cases h with
  | start => omega
  | skip h hp hs =>
    have := ((step_adv _ _).1 _ hs).2
    rw [List.length_drop] at this; omega
  | tok h hp hs =>
    have := ((step_adv _ _).2 _ _ _ hs).2
    rw [List.length_drop] at this; omega
end Go.Proofs.YtnpjnmkmjcpjmaaDoor
