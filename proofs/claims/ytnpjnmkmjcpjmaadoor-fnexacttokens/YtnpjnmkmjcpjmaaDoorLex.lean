/- The plain mathematics of Tokens: one step, what is reached, and what is answered. -/
import Derived.Test.YtnpjnmkmjcpjmaaDoorChars
import Derived.Lib.Strings
import Derived.Lib.IndexBytes
namespace Go.Proofs.YtnpjnmkmjcpjmaaDoor
open Go.RowKit

theorem bytes_eq {a b : ByteArray} (h : a.data.toList = b.data.toList) : a = b := by
  cases a; cases b; simp only at h; congr; exact Array.ext' h

/-- A text out of its bytes. -/
def bs (l : List UInt8) : ByteArray := ⟨l.toArray⟩
theorem bs_data (l : List UInt8) : (bs l).data.toList = l := by simp [bs]
theorem bs_size (l : List UInt8) : (bs l).size = l.length := by simp [bs, ByteArray.size]

structure Tok where
  kind : Int
  text : ByteArray
  place : Nat

inductive LStep where
  | skip (d : Nat)
  | tok (k : Int) (t : ByteArray) (d : Nat)
  | bad

def sgWords : List ByteArray := [⟨#[58, 61]⟩, ⟨#[61, 61]⟩, ⟨#[33, 61]⟩, ⟨#[60, 61]⟩, ⟨#[62, 61]⟩, ⟨#[38, 38]⟩, ⟨#[124, 124]⟩, ⟨#[60, 45]⟩, ⟨#[43, 43]⟩, ⟨#[45, 45]⟩, ⟨#[43]⟩, ⟨#[45]⟩, ⟨#[42]⟩, ⟨#[47]⟩, ⟨#[37]⟩, ⟨#[60]⟩, ⟨#[62]⟩, ⟨#[33]⟩, ⟨#[61]⟩, ⟨#[40]⟩, ⟨#[41]⟩, ⟨#[123]⟩, ⟨#[125]⟩, ⟨#[44]⟩, ⟨#[58]⟩]
def ekWords : List ByteArray := [⟨#[114, 101, 116, 117, 114, 110]⟩, ⟨#[98, 114, 101, 97, 107]⟩, ⟨#[99, 111, 110, 116, 105, 110, 117, 101]⟩, ⟨#[116, 114, 117, 101]⟩, ⟨#[102, 97, 108, 115, 101]⟩, ⟨#[105, 110, 116]⟩, ⟨#[98, 111, 111, 108]⟩]
def eoWords : List ByteArray := [⟨#[43, 43]⟩, ⟨#[45, 45]⟩, ⟨#[41]⟩, ⟨#[125]⟩]

def endB (k : Int) (t : ByteArray) : Bool := decide (k = 1) || (decide (k = 2) || (decide (k = 3) && hasB ekWords t || decide (k = 4) && hasB eoWords t))
def endsL (acc : List Tok) : Bool := match acc.getLast? with
  | none => false
  | some t => endB t.kind t.text

def blankB (c : Int) : Bool := decide (c = 32) || (decide (c = 9) || decide (c = 13))
/-- How many bytes stand ahead of the line's end. -/
def lineLen (l : List UInt8) : Nat := (l.takeWhile fun b => b != 10).length
def numT (t : List UInt8) : Bool := decide (t.length ≤ 18) && (!(decide (1 < t.length) && decide ((t.headD 0).toNat = 48)) && t.all fun b => digitB b.toNat)
/-- The sign that stands there; none: the empty text. -/
def signAt (l : List UInt8) : ByteArray := (sgWords.find? fun g => g.data.toList.isPrefixOf l).getD ⟨#[]⟩

/-- The token that stands ahead of l. -/
def tokStep (l : List UInt8) : LStep :=
  if (l.headD 0).toNat = 59 then .tok 5 ⟨#[59]⟩ 1
  else if letterB (l.headD 0).toNat then (if 40 < wlen l then .bad else .tok (if hasB kwWords (bs (l.take (wlen l))) then 3 else 1) (bs (l.take (wlen l))) (wlen l))
  else if digitB (l.headD 0).toNat then (if numT (l.take (wlen l)) then .tok 2 (bs (l.take (wlen l))) (wlen l) else .bad)
  else if (signAt l).size = 0 then .bad else .tok 4 (signAt l) (signAt l).size

/-- What stands at a place: l is the rest of the text from there on. -/
def lexStep (l : List UInt8) (ends : Bool) : LStep :=
  match l with
  | [] => if ends then .tok 5 ⟨#[]⟩ 1 else .skip 1
  | c :: r =>
    if c.toNat = 10 then (if ends then .tok 5 ⟨#[]⟩ 1 else .skip 1)
    else if blankB c.toNat then .skip 1
    else if c.toNat = 47 ∧ r.head? = some 47 then .skip (lineLen l)
    else tokStep l

theorem wlen_le (l : List UInt8) : wlen l ≤ l.length := (List.takeWhile_sublist _).length_le
theorem wlen_pos {l : List UInt8} (h : wordB (l.headD 0).toNat = true) (hl : l ≠ []) : 1 ≤ wlen l := by
  cases l with
  | nil => exact absurd rfl hl
  | cons a l =>
    have h' : wordB a.toNat = true := h
    simp [wlen, h']

/-- What is reached going along: the place and the tokens so far. -/
inductive Reach (s : List UInt8) : Nat → List Tok → Prop
  | start : Reach s 0 []
  | skip {p : Nat} {acc : List Tok} {d : Nat} : Reach s p acc → p ≤ s.length → lexStep (s.drop p) (endsL acc) = .skip d → Reach s (p + d) acc
  | tok {p : Nat} {acc : List Tok} {k : Int} {t : ByteArray} {d : Nat} : Reach s p acc → p ≤ s.length → lexStep (s.drop p) (endsL acc) = .tok k t d → Reach s (p + d) (acc ++ [⟨k, t, p⟩])

structure Outcome where
  list : List Tok
  code : Int
  place : Nat

/-- What is answered. -/
inductive Answers (s : List UInt8) : Outcome → Prop
  | done {p : Nat} {acc : List Tok} : Reach s p acc → acc.length ≤ 4000 → s.length < p → Answers s ⟨acc, 0, 0⟩
  | bad {p : Nat} {acc : List Tok} : Reach s p acc → acc.length ≤ 4000 → p ≤ s.length → lexStep (s.drop p) (endsL acc) = .bad → Answers s ⟨[], 4, p⟩
  | many {p : Nat} {acc : List Tok} {k : Int} {t : ByteArray} {d : Nat} : Reach s p acc → acc.length = 4000 → p ≤ s.length → lexStep (s.drop p) (endsL acc) = .tok k t d → Answers s ⟨[], 13, p⟩
end Go.Proofs.YtnpjnmkmjcpjmaaDoor
