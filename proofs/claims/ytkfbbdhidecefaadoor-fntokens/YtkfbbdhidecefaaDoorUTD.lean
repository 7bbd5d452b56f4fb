import Derived.Test.YtkfbbdhidecefaaDoorUKaBase
import Derived.Lib.IndexBytes
set_option linter.unusedVariables false
set_option maxHeartbeats 16000000
set_option maxRecDepth 100000
namespace Go.Proofs.YtkfbbdhidecefaaDoor
open Go.RowKit
variable {G : Prop}
theorem bY0 (h : G := by
 rw [e1]
 have e2 : x ++ 32 :: r = c :: (y ++ 32 :: r) := by rw [hc]; rfl
 have hh : ((((x ++ 32 :: r).headD 0).toNat : Nat) : Int) = c.toNat := by rw [e2]; rfl
 have e3 : fB (x ++ 32 :: r) e = bp (x ++ 32 :: r) := by rw [e2]; exact yY e lA hb zY
 first
 |clear k_Y0_0
  rw [e3, ui _ _ hh qp hl, hw, if_neg (by omega)]
  have e4 : (x ++ 32 :: r).take x.length = x := by simp
  rw [e4]
 |clear k_Y0_1
  have e4 : (x ++ 32 :: r).take x.length = x := by simp
  rw [e3, xJ _ _ hh qp hl hd, hw, e4, if_pos hn]) : G := h
theorem pR {a b : ByteArray} (h : a.data.toList = b.data.toList) : a = b := by
 cases a; cases b; simp only at h; congr; exact Array.ext' h
def bs (l : List UInt8) : ByteArray := ⟨l.toArray⟩
theorem nV (l : List UInt8) : (bs l).data.toList = l := by simp [bs]
theorem rX (l : List UInt8) : (bs l).size = l.length := by simp [bs, ByteArray.size]
structure Tok where
 kind : Int
 text : ByteArray
 place : Nat
inductive M4 where
 |skip (d : Nat)
 |tok (k : Int) (t : ByteArray) (d : Nat)
 |bad
def aH : List ByteArray := [⟨#[58, 61]⟩, ⟨#[61, 61]⟩, ⟨#[33, 61]⟩, ⟨#[60, 61]⟩, ⟨#[62, 61]⟩, ⟨#[38, 38]⟩, ⟨#[124, 124]⟩, ⟨#[60, 45]⟩, ⟨#[43, 43]⟩, ⟨#[45, 45]⟩, ⟨#[43]⟩, ⟨#[45]⟩, ⟨#[42]⟩, ⟨#[47]⟩, ⟨#[37]⟩, ⟨#[60]⟩, ⟨#[62]⟩, ⟨#[33]⟩, ⟨#[61]⟩, ⟨#[40]⟩, ⟨#[41]⟩, ⟨#[123]⟩, ⟨#[125]⟩, ⟨#[44]⟩, ⟨#[58]⟩]
def rR : List ByteArray := [⟨#[114, 101, 116, 117, 114, 110]⟩, ⟨#[98, 114, 101, 97, 107]⟩, ⟨#[99, 111, 110, 116, 105, 110, 117, 101]⟩, ⟨#[116, 114, 117, 101]⟩, ⟨#[102, 97, 108, 115, 101]⟩, ⟨#[105, 110, 116]⟩, ⟨#[98, 111, 111, 108]⟩]
def rQ : List ByteArray := [⟨#[43, 43]⟩, ⟨#[45, 45]⟩, ⟨#[41]⟩, ⟨#[125]⟩]
def mD (k : Int) (t : ByteArray) : Bool := decide (k = 1) || (decide (k = 2) || (decide (k = 3) && hasB rR t || decide (k = 4) && hasB rQ t))
def fS (acc : List Tok) : Bool := match acc.getLast? with
 |none => false
 |some t => mD t.kind t.text
def b9 (c : Int) : Bool := decide (c = 32) || (decide (c = 9) || decide (c = 13))
def b6 (l : List UInt8) : Nat := (l.takeWhile fun b => b != 10).length
def oy (t : List UInt8) : Bool := decide (t.length ≤ 18) && (!(decide (1 < t.length) && decide ((t.headD 0).toNat = 48)) && t.all fun b => aM b.toNat)
def bL (l : List UInt8) : ByteArray := (aH.find? fun g => g.data.toList.isPrefixOf l).getD ⟨#[]⟩
def bp (l : List UInt8) : M4 :=
 if (l.headD 0).toNat = 59 then .tok 5 ⟨#[59]⟩ 1
 else if aW (l.headD 0).toNat then (if 40 < bC l then .bad else .tok (if hasB aS (bs (l.take (bC l))) then 3 else 1) (bs (l.take (bC l))) (bC l))
 else if aM (l.headD 0).toNat then (if oy (l.take (bC l)) then .tok 2 (bs (l.take (bC l))) (bC l) else .bad)
 else if (bL l).size = 0 then .bad else .tok 4 (bL l) (bL l).size
def fB (l : List UInt8) (ends : Bool) : M4 :=
 match l with
 |[] => if ends then .tok 5 ⟨#[]⟩ 1 else .skip 1
 |c :: r =>
  if c.toNat = 10 then (if ends then .tok 5 ⟨#[]⟩ 1 else .skip 1)
  else if b9 c.toNat then .skip 1
  else if c.toNat = 47 ∧ r.head? = some 47 then .skip (b6 l)
  else bp l
theorem nJ (l : List UInt8) : bC l ≤ l.length := (List.takeWhile_sublist _).length_le
theorem nc {l : List UInt8} (h : aR (l.headD 0).toNat = true) (hl : l ≠ []) : 1 ≤ bC l := by
 cases l with
 |nil => exact absurd rfl hl
 |cons a l =>
  have h' : aR a.toNat = true := h
  simp [bC, h']
inductive Reach (s : List UInt8) : Nat → List Tok → Prop
 |start : Reach s 0 []
 |skip {p : Nat} {acc : List Tok} {d : Nat} : Reach s p acc → p ≤ s.length → fB (s.drop p) (fS acc) = .skip d → Reach s (p + d) acc
 |tok {p : Nat} {acc : List Tok} {k : Int} {t : ByteArray} {d : Nat} : Reach s p acc → p ≤ s.length → fB (s.drop p) (fS acc) = .tok k t d → Reach s (p + d) (acc ++ [⟨k, t, p⟩])
structure Outcome where
 list : List Tok
 code : Int
 place : Nat
inductive cC (s : List UInt8) : Outcome → Prop
 |done {p : Nat} {acc : List Tok} : Reach s p acc → acc.length ≤ 4000 → s.length < p → cC s ⟨acc, 0, 0⟩
 |bad {p : Nat} {acc : List Tok} : Reach s p acc → acc.length ≤ 4000 → p ≤ s.length → fB (s.drop p) (fS acc) = .bad → cC s ⟨[], 4, p⟩
 |many {p : Nat} {acc : List Tok} {k : Int} {t : ByteArray} {d : Nat} : Reach s p acc → acc.length = 4000 → p ≤ s.length → fB (s.drop p) (fS acc) = .tok k t d → cC s ⟨[], 13, p⟩
theorem kS (s : ByteArray) (p : Nat) (hp : p < s.size) : s.data.toList.drop p = s[p] :: s.data.toList.drop (p + 1) :=
 List.drop_eq_getElem_cons (show p < s.data.toList.length from hp)
theorem ze (s : ByteArray) (p : Nat) (hp : s.size ≤ p) : s.data.toList.drop p = [] := List.drop_eq_nil_iff.2 hp
theorem gB (c : UInt8) (r : List UInt8) (e : Bool) : fB (c :: r) e = if c.toNat = 10 then (if e then .tok 5 ⟨#[]⟩ 1 else .skip 1) else if b9 c.toNat then .skip 1 else if c.toNat = 47 ∧ r.head? = some 47 then .skip (b6 (c :: r)) else bp (c :: r) := rfl
theorem step_end (s : ByteArray) (p : Nat) (e : Bool) (h : p = s.size ∨ ∃ hp : p < s.size, (s[p].toNat : Int) = 10) : fB (s.data.toList.drop p) e = if e then .tok 5 ⟨#[]⟩ 1 else .skip 1 := by
 rcases h with h | ⟨hp, h⟩
 ·rw [ze s p (by omega)]; rfl
 ·rw [kS s p hp]
  have : s[p].toNat = 10 := by omega
  rw [gB, if_pos this]
theorem um (s : ByteArray) (p : Nat) (e : Bool) (hp : p < s.size) (c : Int) (hc : (s[p].toNat : Int) = c) (lA : c ≠ 10) (hb : b9 c = true) : fB (s.data.toList.drop p) e = .skip 1 := by
 rw [kS s p hp]
 rw [gB, if_neg (by omega), hc, if_pos hb]
theorem sK (s : ByteArray) (p : Nat) : ((s.data.toList.drop (p + 1)).head? = some 47) ↔ ∃ h : p + 1 < s.size, (s[p + 1].toNat : Int) = 47 := by
 by_cases h : p + 1 < s.size
 ·rw [kS s (p + 1) h]
  simp only [List.head?_cons, Option.some.injEq]
  constructor
  ·intro e; exact ⟨h, by rw [e]; rfl⟩
  ·rintro ⟨_, e⟩
   have : s[p + 1].toNat = (47 : UInt8).toNat := by show s[p + 1].toNat = 47; omega
   exact UInt8.toNat_inj.1 this
 ·rw [ze s (p + 1) (by omega)]
  simp only [List.head?_nil]
  exact ⟨fun e => (by cases e), fun x => absurd x.1 h⟩
theorem rs (s : ByteArray) (p : Nat) (e : Bool) (hp : p < s.size) (c : Int) (hc : (s[p].toNat : Int) = c) (hb : b9 c = false) (zY : c = 47) (h2 : ∃ h : p + 1 < s.size, (s[p + 1].toNat : Int) = 47) : fB (s.data.toList.drop p) e = .skip (b6 (s.data.toList.drop p)) := by
 have hl := kS s p hp
 rw [hl]
 rw [gB, if_neg (by omega), hc, hb]
 rw [if_neg (by decide), if_pos ⟨by omega, (sK s p).2 h2⟩]
theorem yX (s : ByteArray) (p : Nat) (e : Bool) (hp : p < s.size) (c : Int) (hc : (s[p].toNat : Int) = c) (lA : c ≠ 10) (hb : b9 c = false) (h2 : ¬ (c = 47 ∧ ∃ h : p + 1 < s.size, (s[p + 1].toNat : Int) = 47)) : fB (s.data.toList.drop p) e = bp (s.data.toList.drop p) := by
 have hl := kS s p hp
 rw [hl]
 rw [gB, if_neg (by omega), hc, hb, if_neg (by decide), if_neg]
 rintro ⟨zY, hh⟩
 exact h2 ⟨by omega, (sK s p).1 hh⟩
theorem D1 (s : ByteArray) (p : Nat) (hp : p < s.size) (c : Int) (hc : (s[p].toNat : Int) = c) : (((s.data.toList.drop p).headD 0).toNat : Int) = c := by
 rw [kS s p hp]; exact hc
theorem yV (l : List UInt8) (c : Int) (hc : ((l.headD 0).toNat : Int) = c) (h : c = 59) : bp l = .tok 5 ⟨#[59]⟩ 1 := by
 unfold bp; rw [if_pos (by omega)]
theorem ui (l : List UInt8) (c : Int) (hc : ((l.headD 0).toNat : Int) = c) (qp : c ≠ 59) (hl : aW c = true) : bp l = if 40 < bC l then .bad else .tok (if hasB aS (bs (l.take (bC l))) then 3 else 1) (bs (l.take (bC l))) (bC l) := by
 unfold bp; rw [if_neg (by omega), hc, if_pos hl]
theorem xJ (l : List UInt8) (c : Int) (hc : ((l.headD 0).toNat : Int) = c) (qp : c ≠ 59) (hl : aW c = false) (hd : aM c = true) : bp l = if oy (l.take (bC l)) then .tok 2 (bs (l.take (bC l))) (bC l) else .bad := by
 unfold bp; rw [if_neg (by omega), hc, hl, if_neg (by decide), if_pos hd]
theorem Fk (l : List UInt8) (c : Int) (hc : ((l.headD 0).toNat : Int) = c) (qp : c ≠ 59) (hl : aW c = false) (hd : aM c = false) : bp l = if (bL l).size = 0 then .bad else .tok 4 (bL l) (bL l).size := by
 unfold bp; rw [if_neg (by omega), hc, hl, if_neg (by decide), hd, if_neg (by decide)]
theorem zp (s : ByteArray) (p : Nat) (hp : p < s.size) (c : Int) (hc : (s[p].toNat : Int) = c) (h : c = 47) : 0 < b6 (s.data.toList.drop p) := by
 rw [kS s p hp]
 have : ¬ s[p] = 10 := fun e => by rw [e] at hc; have : ((10 : UInt8).toNat : Int) = 10 := rfl; omega
 simp [b6, this]
theorem Co (l : List UInt8) : b6 l ≤ l.length := (List.takeWhile_sublist _).length_le
theorem Ch (l : List UInt8) : (bL l).size ≤ l.length := by
 unfold bL
 cases hf : aH.find? fun g => g.data.toList.isPrefixOf l with
 |none => simp [ByteArray.size]
 |some g =>
  have := List.find?_some hf
  have := (List.isPrefixOf_iff_prefix.1 this).length_le
  have hg : g.data.toList.length = g.size := rfl
  simp only [Option.getD_some]; omega
theorem FO (l : List UInt8) (e : Bool) : (∀ d, fB l e = .skip d → 1 ≤ d ∧ d ≤ max 1 l.length) ∧ (∀ k t d, fB l e = .tok k t d → 1 ≤ d ∧ d ≤ max 1 l.length) := by
 have hw := nJ l
 have zK := Co l
 have o7 := Ch l
 cases l with
 |nil => constructor <;> intros <;> simp only [fB] at * <;> split at * <;> simp_all
 |cons c r =>
  have hT : ∀ k t d, bp (c :: r) = .tok k t d → 1 ≤ d ∧ d ≤ max 1 (c :: r).length := by
   intro k t d h
   unfold bp at h
   split at h
   ·cases h; simp
   split at h
   ·rename_i hl
    have := nc (l := c :: r) (by unfold aR; rw [hl]; rfl) (by simp)
    split at h
    ·cases h
    ·cases h; omega
   split at h
   ·rename_i hd
    have := nc (l := c :: r) (by unfold aR; rw [hd]; exact Bool.or_true _) (by simp)
    split at h
    ·cases h; omega
    ·cases h
   split at h
   ·cases h
   ·cases h; omega
  have hT2 : ∀ d, bp (c :: r) ≠ .skip d := by
   intro d h
   unfold bp at h
   repeat' (split at h)
   all_goals cases h
  constructor
  ·intro d h
   rw [gB] at h
   split at h
   ·split at h
    ·cases h
    ·cases h; simp
   split at h
   ·cases h; simp
   split at h
   ·rename_i h3 h4
    cases h
    have : ¬ c = 10 := fun e => by rw [e] at h4; exact absurd h4.1 (by decide)
    have hp : 0 < b6 (c :: r) := by simp [b6, this]
    omega
   ·exact absurd h (hT2 d)
  ·intro k t d h
   rw [gB] at h
   split at h
   ·split at h
    ·cases h; simp
    ·cases h
   split at h
   ·cases h
   split at h
   ·cases h
   ·exact hT k t d h
inductive tF (s : List UInt8) : Nat → List Tok → Outcome → Prop
 |done {p : Nat} {acc : List Tok} : s.length < p → tF s p acc ⟨acc, 0, 0⟩
 |bad {p : Nat} {acc : List Tok} : p ≤ s.length → fB (s.drop p) (fS acc) = .bad → tF s p acc ⟨[], 4, p⟩
 |many {p : Nat} {acc : List Tok} {k : Int} {t : ByteArray} {d : Nat} : p ≤ s.length → fB (s.drop p) (fS acc) = .tok k t d → acc.length = 4000 → tF s p acc ⟨[], 13, p⟩
 |skip {p : Nat} {acc : List Tok} {d : Nat} {o : Outcome} : p ≤ s.length → fB (s.drop p) (fS acc) = .skip d → tF s (p + d) acc o → tF s p acc o
 |tok {p : Nat} {acc : List Tok} {k : Int} {t : ByteArray} {d : Nat} {o : Outcome} : p ≤ s.length → fB (s.drop p) (fS acc) = .tok k t d → acc.length ≠ 4000 → tF s (p + d) (acc ++ [⟨k, t, p⟩]) o → tF s p acc o
theorem Hr {s : List UInt8} {p : Nat} {acc : List Tok} {o : Outcome} (h : tF s p acc o) : ∀ {o' : Outcome}, tF s p acc o' → o = o' := by
 induction h with
 |done hp =>
  intro o' h'
  cases h' with
  |done _ => rfl
  |bad h _ => omega
  |many h _ _ => omega
  |skip h _ _ => omega
  |tok h _ _ _ => omega
 |bad hp hs =>
  intro o' h'
  cases h' with
  |done h => omega
  |bad _ _ => rfl
  |many _ h _ => rw [hs] at h; cases h
  |skip _ h _ => rw [hs] at h; cases h
  |tok _ h _ _ => rw [hs] at h; cases h
 |many hp hs hl =>
  intro o' h'
  cases h' with
  |done h => omega
  |bad _ h => rw [hs] at h; cases h
  |many _ _ _ => rfl
  |skip _ h _ => rw [hs] at h; cases h
  |tok _ _ h _ => exact absurd hl h
 |skip hp hs _ ih =>
  intro o' h'
  cases h' with
  |done h => omega
  |bad _ h => rw [hs] at h; cases h
  |many _ h _ => rw [hs] at h; cases h
  |skip _ h h2 => rw [hs] at h; cases h; exact ih h2
  |tok _ h _ _ => rw [hs] at h; cases h
 |tok hp hs hl _ ih =>
  intro o' h'
  cases h' with
  |done h => omega
  |bad _ h => rw [hs] at h; cases h
  |many _ _ h => exact absurd h hl
  |skip _ h _ => rw [hs] at h; cases h
  |tok _ h _ h2 => rw [hs] at h; cases h; exact ih h2
theorem qY {s : List UInt8} {p : Nat} {acc : List Tok} (h : Reach s p acc) : ∀ {o : Outcome}, acc.length ≤ 4000 → tF s p acc o → tF s 0 [] o := by
 induction h with
 |start => intro o _ h; exact h
 |skip _ hp hs ih => intro o hl h; exact ih hl (.skip hp hs h)
 |tok _ hp hs ih => intro o hl h; simp at hl; exact ih (by omega) (.tok hp hs (by omega) h)
theorem rY {s : List UInt8} {o : Outcome} (h : cC s o) : tF s 0 [] o := by
 cases h with
 |done h hl hp => exact qY h hl (.done hp)
 |bad h hl hp hs => exact qY h hl (.bad hp hs)
 |many h hl hp hs => exact qY h (by omega) (.many hp hs hl)
theorem tr {s : List UInt8} {o o' : Outcome} (h : cC s o) (h' : cC s o') : o = o' := Hr (rY h) (rY h')
theorem uF {s : List UInt8} {p : Nat} {acc : List Tok} (h : Reach s p acc) : ∀ hl : 4000 < acc.length, cC s ⟨[], 13, acc[4000].place⟩ := by
 induction h with
 |start => intro hl; simp at hl
 |skip _ _ _ ih => exact ih
 |@tok p acc k t d h hp hs ih =>
  intro hl
  by_cases h4 : 4000 < acc.length
  ·have := ih h4
   rw [List.getElem_append_left h4]; exact this
  ·have h5 : acc.length = 4000 := by simp at hl; omega
   have : (acc ++ [(⟨k, t, p⟩ : Tok)])[4000].place = p := by
    rw [List.getElem_append_right (by omega)]; simp [h5]
   rw [this]
   exact .many h h5 hp hs
def xF (k : Int) (t : ByteArray) : List UInt8 := if k = 5 then [59, 32] else t.data.toList ++ [32]
def lJ : List Tok → List UInt8
 |[] => []
 |a :: r => xF a.kind a.text ++ lJ r
theorem nI (a b : List Tok) : lJ (a ++ b) = lJ a ++ lJ b := by
 induction a with
 |nil => rfl
 |cons x a ih => simp [lJ, ih]
def vI (k : Int) (t : ByteArray) : Prop := ∀ (r : List UInt8) (e : Bool), ∃ t' d, fB (xF k t ++ r) e = .tok k t' d ∧ (xF k t ++ r).drop d = 32 :: r ∧ (k ≠ 5 → t' = t)
theorem rl (t : ByteArray) : vI 5 t := fun r e => ⟨⟨#[59]⟩, 1, rfl, rfl, fun h => absurd rfl h⟩
theorem wJ {x r : List UInt8} (hx : ∀ b ∈ x, aR b.toNat = true) : bC (x ++ 32 :: r) = x.length := by
 have h32 : aR ((32 : UInt8).toNat : Int) = false := by decide
 unfold bC
 have h : List.takeWhile (fun b : UInt8 => aR b.toNat) (32 :: r) = [] := by simp only [List.takeWhile, h32]
 rw [List.takeWhile_append_of_pos (by simpa using hx), h]
 simp
theorem nb (l : List UInt8) : ∀ b ∈ l.take (bC l), aR b.toNat = true := by
 have e : l.take (bC l) = l.takeWhile fun b => aR b.toNat := by
  unfold bC
  induction l with
  |nil => rfl
  |cons c r ih =>
   by_cases h : aR (c.toNat : Int) = true
   ·simp [h, ih]
   ·simp [h]
 rw [e]
 intro b hb
 exact List.all_eq_true.1 (List.all_takeWhile (l := l) (p := fun b => aR b.toNat)) b hb
theorem Bb {c : Int} (h : aW c = true) : c ≠ 10 ∧ b9 c = false ∧ c ≠ 47 ∧ c ≠ 59 := by
 simp only [aW, Bool.or_eq_true, decide_eq_true_eq] at h
 refine ⟨by omega, ?_, by omega, by omega⟩
 simp only [b9, Bool.or_eq_false_iff, decide_eq_false_iff_not]
 omega
theorem Es {c : Int} (h : aM c = true) : c ≠ 10 ∧ b9 c = false ∧ c ≠ 47 ∧ c ≠ 59 ∧ aW c = false := by
 simp only [aM, decide_eq_true_eq] at h
 refine ⟨by omega, ?_, by omega, by omega, ?_⟩
 ·simp only [b9, Bool.or_eq_false_iff, decide_eq_false_iff_not]; omega
 ·simp only [aW, Bool.or_eq_false_iff, decide_eq_false_iff_not]; omega
theorem yY {c : UInt8} {l : List UInt8} (e : Bool) (lA : (c.toNat : Int) ≠ 10) (hb : b9 c.toNat = false) (zY : (c.toNat : Int) ≠ 47) : fB (c :: l) e = bp (c :: l) := by
 rw [gB, if_neg (by omega), hb, if_neg (by decide), if_neg (fun h => zY (by omega))]
theorem BR {x : List UInt8} {c : UInt8} {y : List UInt8} (hc : x = c :: y) (hx : ∀ b ∈ x, aR b.toNat = true) (hl : aW c.toNat = true) (hn : x.length ≤ 40) : vI (if hasB aS (bs x) then 3 else 1) (bs x) := by
 intro r e
 have hk : (if hasB aS (bs x) then (3 : Int) else 1) ≠ 5 := by split <;> omega
 have hw := wJ (r := r) hx
 obtain ⟨lA, hb, zY, qp⟩ := Bb hl
 refine ⟨bs x, x.length, ?_, ?_, fun _ => rfl⟩
 ·have e1 : xF (if hasB aS (bs x) then 3 else 1) (bs x) ++ r = x ++ 32 :: r := by unfold xF; rw [if_neg hk, nV]; simp
  have k_Y0_0 := kk
  exact bY0
 ·unfold xF; rw [if_neg hk, nV]; simp
theorem EA {x : List UInt8} {c : UInt8} {y : List UInt8} (hc : x = c :: y) (hx : ∀ b ∈ x, aR b.toNat = true) (hd : aM c.toNat = true) (hn : oy x = true) : vI 2 (bs x) := by
 intro r e
 have hw := wJ (r := r) hx
 obtain ⟨lA, hb, zY, qp, hl⟩ := Es hd
 refine ⟨bs x, x.length, ?_, ?_, fun _ => rfl⟩
 ·have e1 : xF 2 (bs x) ++ r = x ++ 32 :: r := by unfold xF; rw [if_neg (by decide), nV]; simp
  have k_Y0_1 := kk
  exact bY0
 ·unfold xF; rw [if_neg (by decide), nV]; simp
theorem Iu {g : ByteArray} (hg : g ∈ aH) : vI 4 g := by
 intro r e
 simp only [aH, List.mem_cons, List.not_mem_nil, or_false] at hg
 rcases hg with rfl | rfl | rfl | rfl | rfl | rfl | rfl | rfl | rfl | rfl | rfl | rfl | rfl | rfl | rfl | rfl | rfl | rfl | rfl | rfl | rfl | rfl | rfl | rfl | rfl <;> exact ⟨_, _, rfl, rfl, fun _ => rfl⟩
theorem xU (l : List UInt8) (h : (bL l).size ≠ 0) : bL l ∈ aH ∧ (bL l).data.toList.isPrefixOf l = true := by
 unfold bL at h ⊢
 cases hf : aH.find? fun g => g.data.toList.isPrefixOf l with
 |none => rw [hf] at h; exact absurd rfl h
 |some g => exact ⟨List.mem_of_find?_eq_some hf, List.find?_some (p := fun g : ByteArray => g.data.toList.isPrefixOf l) hf⟩
inductive Took : List UInt8 → Bool → Int → ByteArray → Nat → Prop
 |fin : Took [] true 5 ⟨#[]⟩ 1
 |line {c : UInt8} {r : List UInt8} : c.toNat = 10 → Took (c :: r) true 5 ⟨#[]⟩ 1
 |semi {c : UInt8} {r : List UInt8} {e : Bool} : c.toNat = 59 → Took (c :: r) e 5 ⟨#[59]⟩ 1
 |word {c : UInt8} {r : List UInt8} {e : Bool} : aW c.toNat = true → bC (c :: r) ≤ 40 → Took (c :: r) e (if hasB aS (bs ((c :: r).take (bC (c :: r)))) then 3 else 1) (bs ((c :: r).take (bC (c :: r)))) (bC (c :: r))
 |num {c : UInt8} {r : List UInt8} {e : Bool} : aM c.toNat = true → oy ((c :: r).take (bC (c :: r))) = true → Took (c :: r) e 2 (bs ((c :: r).take (bC (c :: r)))) (bC (c :: r))
 |op {c : UInt8} {r : List UInt8} {e : Bool} : (bL (c :: r)).size ≠ 0 → Took (c :: r) e 4 (bL (c :: r)) (bL (c :: r)).size
theorem xI {l : List UInt8} {e : Bool} {k : Int} {t : ByteArray} {d : Nat} (h : fB l e = .tok k t d) : Took l e k t d := by
 cases l with
 |nil =>
  cases e with
  |false => simp [fB] at h
  |true => simp [fB] at h; obtain ⟨rfl, rfl, rfl⟩ := h; exact .fin
 |cons c r =>
  rw [gB] at h
  by_cases lA : c.toNat = 10
  ·rw [if_pos lA] at h
   cases e with
   |false => simp at h
   |true => simp at h; obtain ⟨rfl, rfl, rfl⟩ := h; exact .line lA
  rw [if_neg lA] at h
  cases hb : b9 c.toNat with
  |true => rw [hb] at h; simp at h
  |false =>
   rw [hb] at h
   rw [if_neg (by decide)] at h
   by_cases zY : c.toNat = 47 ∧ r.head? = some 47
   ·rw [if_pos zY] at h; simp at h
   rw [if_neg zY] at h
   by_cases qp : c.toNat = 59
   ·rw [yV (c :: r) 59 (by show ((c.toNat : Nat) : Int) = 59; omega) rfl] at h
    injection h with e1 e2 e3; subst e1 e2 e3; exact .semi qp
   cases hl : aW c.toNat with
   |true =>
    rw [ui (c :: r) c.toNat rfl (by omega) hl] at h
    by_cases hw : 40 < bC (c :: r)
    ·rw [if_pos hw] at h; cases h
    ·rw [if_neg hw] at h
     injection h with e1 e2 e3; subst e1 e2 e3; exact .word hl (by omega)
   |false =>
    cases hd : aM c.toNat with
    |true =>
     rw [xJ (c :: r) c.toNat rfl (by omega) hl hd] at h
     by_cases hw : oy ((c :: r).take (bC (c :: r))) = true
     ·rw [if_pos hw] at h
      injection h with e1 e2 e3; subst e1 e2 e3; exact .num hd hw
     ·rw [if_neg hw] at h; cases h
    |false =>
     rw [Fk (c :: r) c.toNat rfl (by omega) hl hd] at h
     by_cases hw : (bL (c :: r)).size = 0
     ·rw [if_pos hw] at h; cases h
     ·rw [if_neg hw] at h
      injection h with e1 e2 e3; subst e1 e2 e3; exact .op hw
theorem pZ {c : UInt8} {r : List UInt8} (h : aR c.toNat = true) : ∃ y, (c :: r).take (bC (c :: r)) = c :: y := by
 have h1 := nc (l := c :: r) h (by simp)
 obtain ⟨n, hn⟩ : ∃ n, bC (c :: r) = n + 1 := ⟨bC (c :: r) - 1, by omega⟩
 rw [hn]; exact ⟨_, rfl⟩
theorem Took.again {l : List UInt8} {e : Bool} {k : Int} {t : ByteArray} {d : Nat} (h : Took l e k t d) : vI k t := by
 cases h with
 |fin => exact rl _
 |line _ => exact rl _
 |semi _ => exact rl _
 |word hl hn =>
  rename_i c r
  obtain ⟨y, hy⟩ := pZ (r := r) (c := c) (by simp [aR, hl])
  exact BR hy (nb _) hl (by rw [List.length_take]; omega)
 |num hd hn =>
  rename_i c r
  obtain ⟨y, hy⟩ := pZ (r := r) (c := c) (by simp [aR, hd])
  exact EA hy (nb _) hd hn
 |op h0 => exact Iu (xU _ h0).1
theorem zh {s : List UInt8} {p : Nat} {acc : List Tok} (h : Reach s p acc) : ∀ a ∈ acc, vI a.kind a.text := by
 induction h with
 |start => intro a ha; cases ha
 |skip _ _ _ ih => exact ih
 |tok _ _ hs ih =>
  intro a ha
  rcases List.mem_append.1 ha with ha | ha
  ·exact ih a ha
  ·simp only [List.mem_singleton] at ha; subst ha; exact (xI hs).again
def Like : List Tok → List Tok → Prop
 |[], [] => True
 |a :: r, b :: s => (a.kind = b.kind ∧ (b.kind ≠ 5 → a.text = b.text)) ∧ Like r s
 |_, _ => False
theorem Like.len : ∀ {a b : List Tok}, Like a b → a.length = b.length
 |[], [], _ => rfl
 |a :: r, b :: s, h => by simp [h.2.len]
theorem Like.at : ∀ {a b : List Tok} (h : Like a b) (i : Nat) (hi : i < a.length) (hj : i < b.length), a[i].kind = b[i].kind ∧ (b[i].kind ≠ 5 → a[i].text = b[i].text)
 |a :: r, b :: s, h, 0, _, _ => h.1
 |a :: r, b :: s, h, i + 1, hi, hj => h.2.at i (by simpa using hi) (by simpa using hj)
theorem Like.snoc : ∀ {a b : List Tok} (h : Like a b) (x y : Tok), x.kind = y.kind → (y.kind ≠ 5 → x.text = y.text) → Like (a ++ [x]) (b ++ [y])
 |[], [], _, x, y, h1, h2 => ⟨⟨h1, h2⟩, trivial⟩
 |a :: r, b :: s, h, x, y, h1, h2 => ⟨h.1, h.2.snoc x y h1 h2⟩
theorem sO (t : ByteArray) : mD 5 t = false := by simp [mD]
theorem Like.ends : ∀ {a b : List Tok}, Like a b → fS a = fS b
 |[], [], _ => rfl
 |[x], [y], h => by
  obtain ⟨⟨h1, h2⟩, _⟩ := h
  show mD x.kind x.text = mD y.kind y.text
  by_cases h5 : y.kind = 5
  ·rw [h1, h5, sO, sO]
  ·rw [h1, h2 h5]
 |x :: y :: r, x' :: y' :: r', h => by
  have := Like.ends (a := y :: r) (b := y' :: r') h.2
  unfold fS at this ⊢
  simpa [List.getLast?_cons_cons] using this
 |[x], y :: z :: r, h => by exact absurd h.2 (by simp [Like])
 |x :: z :: r, [y], h => by exact absurd h.2 (by simp [Like])
theorem F9 {A : List Tok} (hA : ∀ a ∈ A, vI a.kind a.text) : ∀ (B C : List Tok), A = B ++ C → ∃ acc, Reach (lJ A) (lJ B).length acc ∧ Like acc B := by
 intro B
 induction hB : B.length generalizing B with
 |zero =>
  intro C _
  have : B = [] := List.eq_nil_of_length_eq_zero hB
  subst this
  exact ⟨[], .start, trivial⟩
 |succ n ih =>
  intro C hC
  obtain ⟨D, b, rfl⟩ : ∃ D b, B = D ++ [b] := by
   rcases List.eq_nil_or_concat B with h | ⟨D, b, h⟩
   ·subst h; simp at hB
   ·exact ⟨D, b, by simpa using h⟩
  have hDn : D.length = n := by simpa using hB
  obtain ⟨acc, hr, hl⟩ := ih D hDn (b :: C) (by rw [hC]; simp)
  have hb := hA b (by rw [hC]; simp)
  have hd : (lJ A).drop (lJ D).length = xF b.kind b.text ++ lJ C := by rw [hC, nI, nI]; simp [lJ]
  obtain ⟨t', d, h1, h2, h3⟩ := hb (lJ C) (fS acc)
  rw [← hd] at h1 h2
  have hle : (lJ D).length ≤ (lJ A).length := by rw [hC, nI, nI]; simp
  have r1 := Reach.tok hr hle h1
  rw [List.drop_drop] at h2
  have Si : (lJ D).length + d ≤ (lJ A).length := by
   rcases Nat.lt_or_ge (lJ A).length ((lJ D).length + d) with h | h
   ·rw [List.drop_eq_nil_iff.2 (by omega)] at h2; cases h2
   ·exact h
  have r2 := Reach.skip (d := 1) r1 Si (by rw [h2]; rfl)
  refine ⟨acc ++ [⟨b.kind, t', (lJ D).length⟩], ?_, hl.snoc _ _ rfl h3⟩
  have hlen : (lJ (D ++ [b])).length = (lJ D).length + d + 1 := by
   have e1 : (lJ A).length = (lJ D).length + d + 1 + (lJ C).length := by
    have := congrArg List.length h2
    simp only [List.length_drop, List.length_cons] at this
    omega
   have e2 : (lJ A).length = (lJ (D ++ [b])).length + (lJ C).length := by rw [hC, nI]; simp
   omega
  rw [hlen]; exact r2
theorem Cc {l : List UInt8} {e : Bool} {k : Int} {t : ByteArray} {d : Nat} (h : Took l e k t d) (hl : l ≠ []) : d ≤ l.length := by
 cases h with
 |fin => exact absurd rfl hl
 |line _ => simp
 |semi _ => simp
 |word _ _ => exact nJ _
 |num _ _ => exact nJ _
 |op h0 =>
  have := (List.isPrefixOf_iff_prefix.1 (xU _ h0).2).length_le
  exact this
theorem Ba (l : List UInt8) : b6 l ≤ l.length := (List.takeWhile_sublist _).length_le
theorem D2 {s : List UInt8} {p : Nat} {acc : List Tok} (h : Reach s p acc) (hp : s.length < p) : fS acc = false := by
 cases h with
 |start => omega
 |skip hr hle hs =>
  rename_i q d
  by_cases hq : s.drop q = []
  ·rw [hq] at hs
   cases he : fS acc with
   |false => rfl
   |true => rw [he] at hs; simp [fB] at hs
  ·exfalso
   obtain ⟨c, r, hcr⟩ : ∃ c r, s.drop q = c :: r := by cases hx : s.drop q with | nil => exact absurd hx hq | cons c r => exact ⟨c, r, rfl⟩
   have hlen : (s.drop q).length = s.length - q := List.length_drop
   rw [hcr] at hlen hs
   rw [gB] at hs
   simp only [List.length_cons] at hlen
   split at hs
   ·split at hs
    ·cases hs
    ·injection hs with e; omega
   ·split at hs
    ·injection hs with e; omega
    ·split at hs
     ·injection hs with e
      have := Ba (c :: r)
      simp only [List.length_cons] at this
      omega
     ·unfold bp at hs
      split at hs
      ·cases hs
      ·split at hs
       ·split at hs <;> cases hs
       ·split at hs
        ·split at hs <;> cases hs
        ·split at hs <;> cases hs
 |tok hr hle hs =>
  rename_i q tB k t d
  have ht := xI hs
  by_cases hq : s.drop q = []
  ·rw [hq] at ht
   have : k = 5 := by
    generalize fS tB = e at ht
    cases ht; rfl
   subst this
   simp [fS, sO]
  ·have := Cc ht hq
   rw [List.length_drop] at this
   omega
theorem EB {s : List UInt8} {p : Nat} {acc : List Tok} (h : Reach s p acc) (hn : acc.length ≤ 4000) (hp : s.length < p) : ∃ tB, cC (lJ acc) ⟨tB, 0, 0⟩ ∧ Like tB acc := by
 obtain ⟨tB, hr, hl⟩ := F9 (zh h) acc [] (by simp)
 have he : fS tB = false := by rw [hl.ends]; exact D2 h hp
 have hs : fB ((lJ acc).drop (lJ acc).length) (fS tB) = .skip 1 := by rw [he, List.drop_length]; rfl
 exact ⟨tB, .done (hr.skip lr hs) (by rw [hl.len]; exact hn) (Nat.lt_succ_self _), hl⟩
def oo : List UInt8 → Bool
 |[] => false
 |b :: _ => aR b.toNat
def mu : List UInt8 → Nat
 |[] => 0
 |c :: r => (if b9 c.toNat then 0 else if aR c.toNat && oo r then 1 else 2) + mu r
theorem lP (c : UInt8) (r : List UInt8) : mu (c :: r) = (if b9 c.toNat then 0 else if aR c.toNat && oo r then 1 else 2) + mu r := rfl
theorem aL (a b : List UInt8) : mu (a ++ b) ≤ mu a + mu b := by
 induction a with
 |nil => simp [mu]
 |cons c r ih =>
  show mu (c :: (r ++ b)) ≤ _
  rw [lP, lP]
  have h : (if b9 c.toNat then 0 else if aR c.toNat && oo (r ++ b) then 1 else 2) ≤ (if b9 c.toNat then 0 else if aR c.toNat && oo r then 1 else 2) := by
   cases r with
   |nil =>
    have h2 : (if aR c.toNat && oo ([] ++ b) then 1 else 2) ≤ 2 := by split <;> omega
    simp only [oo, Bool.and_false, Bool.false_eq_true, if_false]
    split
    ·exact Nat.le_refl _
    ·exact h2
   |cons d r => exact Nat.le_refl _
  omega
theorem Kj (l : List UInt8) (d : Nat) : mu (l.drop d) ≤ mu l := by
 induction l generalizing d with
 |nil => simp
 |cons c r ih =>
  cases d with
  |zero => exact Nat.le_refl _
  |succ d => rw [List.drop_succ_cons, lP]; have := ih d; omega
theorem A7 (l : List UInt8) : mu l ≤ 2 * l.length := by
 induction l with
 |nil => exact Nat.le_refl _
 |cons c r ih =>
  rw [lP, List.length_cons]
  have : (if b9 c.toNat then 0 else if aR c.toNat && oo r then 1 else 2) ≤ 2 := by split <;> (try split) <;> omega
  omega
theorem vx {c : Int} (h : aR c = true) : b9 c = false := by
 simp only [aR, aW, aM, Bool.or_eq_true, decide_eq_true_eq] at h
 simp only [b9, Bool.or_eq_false_iff, decide_eq_false_iff_not]
 omega
theorem Gn {x : List UInt8} (h : ∀ b ∈ x, aR b.toNat = true) : mu x ≤ x.length + 1 := by
 induction x with
 |nil => simp [mu]
 |cons c r ih =>
  have hc := h c (by simp)
  have ih' := ih fun b hb => h b (by simp [hb])
  rw [lP, vx hc, hc]
  simp only [Bool.true_and, Bool.false_eq_true, if_false, List.length_cons]
  cases r with
  |nil => simp [oo, mu]
  |cons d r =>
   have hd := h d (by simp)
   simp only [oo, hd, if_true]
   omega
theorem s6 {x r : List UInt8} (hx : ∀ b ∈ x, aR b.toNat = true) (h0 : x ≠ []) (hr : oo r = false) : mu (x ++ r) = x.length + 1 + mu r := by
 induction x with
 |nil => exact absurd rfl h0
 |cons c y ih =>
  have hc := hx c (by simp)
  show mu (c :: (y ++ r)) = _
  rw [lP, vx hc, hc]
  simp only [Bool.true_and, Bool.false_eq_true, if_false, List.length_cons]
  cases y with
  |nil => simp [hr]
  |cons d y =>
   have hd := hx d (by simp)
   rw [ih (fun b hb => hx b (by simp [hb])) (by simp)]
   have : oo (d :: y ++ r) = true := hd
   simp only [this, if_true, List.length_cons]
   omega
theorem tW (l : List UInt8) : oo (l.drop (bC l)) = false := by
 unfold bC
 induction l with
 |nil => rfl
 |cons c r ih =>
  by_cases h : aR (c.toNat : Int) = true
  ·simp only [List.takeWhile, h, List.length_cons, List.drop_succ_cons]; exact ih
  ·have h' : aR (c.toNat : Int) = false := by simpa using h
   simp only [List.takeWhile, h', List.length_nil, List.drop_zero, oo]
theorem AU {g : ByteArray} (hg : g ∈ aH) : (1 ≤ g.size ∧ g.size ≤ 2) ∧ ∀ b ∈ g.data.toList, b9 b.toNat = false ∧ aR b.toNat = false := by
 have h : (aH.all fun g => (decide (1 ≤ g.size) && decide (g.size ≤ 2)) && g.data.toList.all fun b => !b9 b.toNat && !aR b.toNat) = true := by decide
 have h1 := List.all_eq_true.1 h g hg
 simp only [Bool.and_eq_true, decide_eq_true_eq] at h1
 refine ⟨h1.1, fun b hb => ?_⟩
 have := List.all_eq_true.1 h1.2 b hb
 simpa using this
theorem Gp {x r : List UInt8} (hx : ∀ b ∈ x, b9 b.toNat = false ∧ aR b.toNat = false) : mu (x ++ r) = 2 * x.length + mu r := by
 induction x with
 |nil => simp
 |cons c y ih =>
  obtain ⟨h1, h2⟩ := hx c (by simp)
  show mu (c :: (y ++ r)) = _
  rw [lP, h1, h2, ih fun b hb => hx b (by simp [hb])]
  simp only [Bool.false_and, Bool.false_eq_true, if_false, List.length_cons]
  omega
theorem B7 (k : Int) (t : ByteArray) : (xF k t).length = if k = 5 then 2 else t.size + 1 := by
 unfold xF; split
 ·rfl
 ·simp
theorem Took.heavy {l : List UInt8} {e : Bool} {k : Int} {t : ByteArray} {d : Nat} (h : Took l e k t d) (hl : l ≠ []) : (xF k t).length + mu (l.drop d) ≤ mu l := by
 rw [B7]
 cases h with
 |fin => exact absurd rfl hl
 |line lA =>
  rename_i c r
  rw [if_pos rfl, List.drop_one, List.tail_cons, lP, lA]
  simp [b9, aR, aW, aM]
 |semi qp =>
  rename_i c r
  rw [if_pos rfl, List.drop_one, List.tail_cons, lP, qp]
  simp [b9, aR, aW, aM]
 |word Ek hn =>
  rename_i c r
  have hk : (if hasB aS (bs ((c :: r).take (bC (c :: r)))) then (3 : Int) else 1) ≠ 5 := by split <;> omega
  obtain ⟨y, hy⟩ := pZ (r := r) (c := c) (by simp [aR, Ek])
  have := s6 (r := (c :: r).drop (bC (c :: r))) (nb (c :: r)) (by rw [hy]; simp) (tW _)
  rw [List.take_append_drop] at this
  rw [if_neg hk, rX, this]
  omega
 |num hd hn =>
  rename_i c r
  obtain ⟨y, hy⟩ := pZ (r := r) (c := c) (by simp [aR, hd])
  have := s6 (r := (c :: r).drop (bC (c :: r))) (nb (c :: r)) (by rw [hy]; simp) (tW _)
  rw [List.take_append_drop] at this
  rw [if_neg (by decide), rX, this]
  omega
 |op h0 =>
  rename_i c r
  obtain ⟨hi, hp⟩ := xU _ h0
  obtain ⟨⟨h1, h2⟩, hb⟩ := AU hi
  obtain ⟨z, hz⟩ := List.isPrefixOf_iff_prefix.1 hp
  rw [if_neg (by decide)]
  generalize hg : bL (c :: r) = g at *
  have bP : g.data.toList.length = g.size := rfl
  rw [← hz, Gp hb, List.drop_left' bP]
  omega
theorem zg {s : List UInt8} {p : Nat} {acc : List Tok} (h : Reach s p acc) : (p ≤ s.length ∧ (lJ acc).length + mu (s.drop p) ≤ mu s) ∨ (s.length < p ∧ (lJ acc).length ≤ mu s + 2) := by
 induction h with
 |start => left; simp [lJ]
 |skip hr hle hs ih =>
  rename_i p acc d
  rcases ih with ⟨_, ih⟩ | ⟨h, _⟩
  ·have hd := Kj (s.drop p) d
   rw [List.drop_drop] at hd
   rcases Nat.lt_or_ge s.length (p + d) with hx | hx
   ·right; exact ⟨hx, by omega⟩
   ·left; exact ⟨hx, by omega⟩
  ·omega
 |tok hr hle hs ih =>
  rename_i p acc k t d
  have ht := xI hs
  rcases ih with ⟨_, ih⟩ | ⟨h, _⟩
  ·rw [nI, List.length_append]
   have e1 : (lJ [(⟨k, t, p⟩ : Tok)]).length = (xF k t).length := by simp [lJ]
   rw [e1]
   by_cases hq : s.drop p = []
   ·right
    rw [hq] at ht
    have hp : s.length ≤ p := List.drop_eq_nil_iff.1 hq
    have : k = 5 ∧ d = 1 := by
     generalize fS acc = e at ht
     cases ht; exact ⟨rfl, rfl⟩
    obtain ⟨rfl, rfl⟩ := this
    exact ⟨by omega, by rw [B7, if_pos rfl]; omega⟩
   ·have h1 := ht.heavy hq
    have h2 := Cc ht hq
    rw [List.drop_drop] at h1
    rw [List.length_drop] at h2
    left; exact ⟨by omega, by omega⟩
  ·omega
end Go.Proofs.YtkfbbdhidecefaaDoor
