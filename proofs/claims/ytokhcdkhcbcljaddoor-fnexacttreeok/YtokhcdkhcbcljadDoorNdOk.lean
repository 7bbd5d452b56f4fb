/- What a right tree is, node by node, as the specification's functions ask it. -/
import Derived.Test.YtokhcdkhcbcljadDoorNd
import Derived.Test.YtokhcdkhcbcljadDoorNames
set_option linter.unusedVariables false
namespace Go.Proofs.YtokhcdkhcbcljadDoor
open Go.RowKit

/-- The signs of two sides, by how they bind. -/
def lvWords : Nat → List ByteArray
  | 1 => [⟨#[124, 124]⟩]
  | 2 => [⟨#[38, 38]⟩]
  | 3 => [⟨#[61, 61]⟩, ⟨#[33, 61]⟩, ⟨#[60]⟩, ⟨#[60, 61]⟩, ⟨#[62]⟩, ⟨#[62, 61]⟩]
  | 4 => [⟨#[43]⟩, ⟨#[45]⟩]
  | 5 => [⟨#[42]⟩, ⟨#[47]⟩, ⟨#[37]⟩]
  | _ => []
def lvl (s : ByteArray) : Nat := if hasB (lvWords 1) s then 1 else if hasB (lvWords 2) s then 2 else if hasB (lvWords 3) s then 3 else if hasB (lvWords 4) s then 4 else if hasB (lvWords 5) s then 5 else 0

def allTo (p : Nat → Bool) : Nat → Bool
  | 0 => true
  | n + 1 => allTo p n && p n
theorem allTo_iff {p : Nat → Bool} : ∀ {n : Nat}, allTo p n = true ↔ ∀ i, i < n → p i = true
  | 0 => by simp [allTo]
  | n + 1 => by
    simp only [allTo, Bool.and_eq_true, allTo_iff (n := n)]
    constructor
    · rintro ⟨h, k⟩ i hi
      by_cases e : i = n
      · subst e; exact k
      · exact h i (by omega)
    · intro h; exact ⟨fun i hi => h i (by omega), h n (by omega)⟩
theorem allTo_false {p : Nat → Bool} {n i : Nat} (hi : i < n) (h : p i = false) : allTo p n = false := by
  rw [Bool.eq_false_iff]; intro e; rw [allTo_iff.1 e i hi] at h; cases h
theorem allTo_true {p : Nat → Bool} {n : Nat} (h : ∀ i, i < n → p i = true) : allTo p n = true := allTo_iff.2 h

/-- Whether kid i is of a sort: e, c, b or another letter. -/
def sortB (e st : Nat → Bool) (kk : Nat → Int) (c : Nat) (i : Nat) : Bool :=
  if c = 101 then e i else if c = 99 then decide (kk i = 25) && e i else if c = 98 then decide (kk i = 4) && st i else (decide (kk i = 4) || decide (kk i = 10)) && st i
def sortsB (e st : Nat → Bool) (kk : Nat → Int) (len : Nat) (sorts : ByteArray) : Bool :=
  decide (len = sorts.size) && allTo (fun i => sortB e st kk (sorts.data.toList.getD i 0).toNat i) sorts.size
def emptyB (s : ByteArray) : Bool := s.toList.isEmpty

def exprB (k n : Int) (s : ByteArray) (len : Nat) (e st : Nat → Bool) (kk : Nat → Int) : Bool :=
  if k = 22 then emptyB s && (decide (0 ≤ n) && decide (n ≤ 999999999999999999) && decide (len = 0))
  else if k = 23 then emptyB s && ((decide (n = 0) || decide (n = 1)) && decide (len = 0))
  else if k = 24 then decide (n = 0) && (nameB s && decide (len = 0))
  else if k = 25 then decide (n = 0) && (nameB s && allTo e len)
  else if k = 26 then emptyB s && decide (n = 0) && (decide (len < 2) && allTo e len)
  else if k = 27 then decide (n = 0) && ((s.toList == [45] || s.toList == [33]) && sortsB e st kk len ⟨#[101]⟩)
  else if k = 28 then decide (n = 0) && (decide (0 < lvl s) && sortsB e st kk len ⟨#[101, 101]⟩)
  else if k = 29 then emptyB s && decide (n = 0) && sortsB e st kk len ⟨#[101]⟩
  else false

def stmtB (k n : Int) (s : ByteArray) (len : Nat) (e st cs : Nat → Bool) (kk : Nat → Int) : Bool :=
  if k = 4 then emptyB s && decide (n = 0) && allTo st len
  else if k = 5 ∨ k = 6 then !emptyB s && nameB s && decide (n = 0) && sortsB e st kk len ⟨#[101]⟩
  else if k = 7 then !emptyB s && nameB s && ((decide (n = 1) || decide (n = -1)) && decide (len = 0))
  else if k = 8 then emptyB s && decide (n = 0) && sortsB e st kk len ⟨#[101, 101]⟩
  else if k = 9 then emptyB s && decide (n = 0) && (sortsB e st kk len ⟨#[101]⟩ && (decide (kk 0 = 25) || decide (kk 0 = 29)))
  else if k = 10 then emptyB s && decide (n = 0) && (sortsB e st kk len ⟨#[101, 98]⟩ || sortsB e st kk len ⟨#[101, 98, 105]⟩)
  else if k = 11 then emptyB s && decide (n = 0) && (sortsB e st kk len ⟨#[98]⟩ || sortsB e st kk len ⟨#[101, 98]⟩)
  else if k = 12 then emptyB s && decide (n = 0) && (decide (len = 0) || sortsB e st kk len ⟨#[101]⟩)
  else if k = 13 ∨ k = 14 then emptyB s && decide (n = 0) && sortsB e st kk len ⟨#[99]⟩
  else if k = 15 then emptyB s && decide (n = 0) && allTo cs len
  else if k = 17 ∨ k = 18 then emptyB s && decide (n = 0) && decide (len = 0)
  else if k = 19 ∨ k = 20 ∨ k = 21 then emptyB s && decide (n = 0) && sortsB e st kk len ⟨#[101]⟩
  else false

def caseB (k n : Int) (s : ByteArray) (len : Nat) (e st : Nat → Bool) (kk : Nat → Int) : Bool :=
  if k = 16 then (emptyB s || (decide (n = 1) && nameB s)) &&
    (if n = 0 then sortsB e st kk len ⟨#[98]⟩ else if n = 1 then sortsB e st kk len ⟨#[101, 98]⟩ else if n = 2 then sortsB e st kk len ⟨#[101, 101, 98]⟩ else false)
  else false

/-- An expression, a statement, a case. -/
def okN : Nd → Bool × Bool × Bool
  | .nil => (false, false, false)
  | .mk k n s len kids =>
    (exprB k n s len (fun i => (okN (kids i)).1) (fun i => (okN (kids i)).2.1) (fun i => (kids i).kind),
     stmtB k n s len (fun i => (okN (kids i)).1) (fun i => (okN (kids i)).2.1) (fun i => (okN (kids i)).2.2) (fun i => (kids i).kind),
     caseB k n s len (fun i => (okN (kids i)).1) (fun i => (okN (kids i)).2.1) (fun i => (kids i).kind))
def Nd.eOk (T : Nd) : Bool := (okN T).1
def Nd.sOk (T : Nd) : Bool := (okN T).2.1
def Nd.cOk (T : Nd) : Bool := (okN T).2.2
def Nd.kk (T : Nd) (i : Nat) : Int := (T.kids i).kind
theorem eOk_eq (T : Nd) : T.eOk = exprB T.kind T.num T.name T.len (fun i => (T.kids i).eOk) (fun i => (T.kids i).sOk) T.kk := by cases T <;> rfl
theorem sOk_eq (T : Nd) : T.sOk = stmtB T.kind T.num T.name T.len (fun i => (T.kids i).eOk) (fun i => (T.kids i).sOk) (fun i => (T.kids i).cOk) T.kk := by cases T <;> rfl
theorem cOk_eq (T : Nd) : T.cOk = caseB T.kind T.num T.name T.len (fun i => (T.kids i).eOk) (fun i => (T.kids i).sOk) T.kk := by cases T <;> rfl
def paramB (T : Nd) : Bool := decide (T.kind = 3) && nameB T.name && (decide (1 ≤ T.num) && decide (T.num ≤ 3)) && decide (T.len = 0)
def funcB (T : Nd) : Bool := decide (T.kind = 2) && nameB T.name && (decide (0 ≤ T.num) && decide (T.num ≤ 3)) && decide (1 ≤ T.len) &&
  (allTo (fun i => paramB (T.kids i)) (T.len - 1) && (decide ((T.kids (T.len - 1)).kind = 4) && (T.kids (T.len - 1)).sOk))
def treeB (T : Nd) : Bool := decide (T.size ≤ 600) && decide (T.kind = 1) && decide (T.num = 0) && emptyB T.name && allTo (fun i => funcB (T.kids i)) T.len
end Go.Proofs.YtokhcdkhcbcljadDoor
