/- Lists of bytes that the printer makes. -/
import Derived.Test.YtacamenjijlemaaGreatDoorProg
import Derived.Test.YtacamenjijlemaaGreatDoorPmBase
import Derived.WalkKit
import Derived.Below
import Derived.Outline
import Derived.ProofKit
import Derived.OwnWalk
import Derived.Laws.Rows
import Derived.Laws.OwnMore
import Derived.Lib.AppendStr
import Derived.Laws.IdiomStrings
import Derived.RegionTactic
import Derived.BigRegion
import Derived.Deep.RegionWith
set_option linter.unusedVariables false
namespace Go.Proofs.YtacamenjijlemaaGreatDoor

/-- A number's digits; the first number bounds how many. -/
def digF : Nat → Nat → List UInt8
  | 0, _ => []
  | f + 1, n => if n < 10 then [UInt8.ofNat (48 + n)] else digF f (n / 10) ++ [UInt8.ofNat (48 + n % 10)]
def catTo (f : Nat → List UInt8) : Nat → List UInt8
  | 0 => []
  | n + 1 => catTo f n ++ f n

def strT (l : List UInt8) : ByteArray := ⟨l.toArray⟩
theorem strT_append (a b : List UInt8) : strT a ++ strT b = strT (a ++ b) := by
  unfold strT
  apply ByteArray.ext
  simp
end Go.Proofs.YtacamenjijlemaaGreatDoor

/- The text of a right tree, as the specification's printer makes it: one reading of a node in each place where it can stand. Bytes as a list. -/
namespace Go.Proofs.YtacamenjijlemaaGreatDoor
open Go.RowKit

def tabsT (d : Nat) : List UInt8 := List.replicate d 9
def typeT (n : Int) : List UInt8 := if n = 1 then [105, 110, 116] else if n = 2 then [98, 111, 111, 108] else if n = 3 then [99, 104, 97, 110, 32, 105, 110, 116] else []
def parT (b : Bool) (t : List UInt8) : List UInt8 := if b then 40 :: (t ++ [41]) else t

/-- The readings: as an expression at a level; as a statement so deep; its kids as statements so deep; a case's head; a case whole, so deep. -/
structure PrN where
  ex : Nat → List UInt8
  st : Nat → List UInt8
  sts : Nat → List UInt8
  cs : Nat → List UInt8

def prEx (k n : Int) (s : List UInt8) (len : Nat) (kk : Nat → Int) (kn : Nat → List UInt8) (p : Nat → PrN) (lv : Nat) (level : Nat) : List UInt8 :=
  if k = 22 then digF 20 n.toNat
  else if k = 23 then (if n = 0 then [102, 97, 108, 115, 101] else [116, 114, 117, 101])
  else if k = 24 then s
  else if k = 25 then s ++ 40 :: (catTo (fun i => (if i = 0 then [] else [44, 32]) ++ (p i).ex 1) len ++ [41])
  else if k = 26 then [109, 97, 107, 101, 40, 99, 104, 97, 110, 32, 105, 110, 116] ++ ((if len = 0 then [] else [44, 32] ++ (p 0).ex 1) ++ [41])
  else if k = 27 then s ++ (if s = [45] ∧ kk 0 = 27 ∧ kn 0 = [45] then 40 :: ((p 0).ex 1 ++ [41]) else (p 0).ex 6)
  else if k = 29 then [60, 45] ++ (p 0).ex 6
  else if k = 28 then parT (decide (lv < level)) ((p 0).ex lv ++ (32 :: (s ++ 32 :: (p 1).ex (lv + 1))))
  else []

def blockT (d : Nat) (inner : List UInt8) : List UInt8 := [123, 10] ++ (inner ++ (tabsT d ++ [125]))
def wordT (w : List UInt8) (len : Nat) (p : Nat → PrN) : List UInt8 := w ++ (if len = 0 then [] else (p 0).ex 1)

def prSt (k n : Int) (s : List UInt8) (len : Nat) (kk : Nat → Int) (p : Nat → PrN) (d : Nat) : List UInt8 :=
  if k = 4 then blockT d (catTo (fun i => tabsT (d + 1) ++ ((p i).st (d + 1) ++ [10])) len)
  else if k = 5 then wordT (s ++ [32, 58, 61, 32]) len p
  else if k = 6 then wordT (s ++ [32, 61, 32]) len p
  else if k = 7 then s ++ (if n = 1 then [43, 43] else [45, 45])
  else if k = 8 then (p 0).ex 1 ++ ([32, 60, 45, 32] ++ (p 1).ex 1)
  else if k = 9 then (p 0).ex 1
  else if k = 10 then [105, 102, 32] ++ ((p 0).ex 1 ++ (32 :: (blockT d ((p 1).sts (d + 1)) ++ (if len = 3 then [32, 101, 108, 115, 101, 32] ++ (p 2).st d else []))))
  else if k = 11 then [102, 111, 114, 32] ++ ((if len = 2 then (p 0).ex 1 ++ [32] else []) ++ blockT d ((p (len - 1)).sts (d + 1)))
  else if k = 12 then (if len = 0 then [114, 101, 116, 117, 114, 110] else wordT [114, 101, 116, 117, 114, 110, 32] len p)
  else if k = 13 then wordT [103, 111, 32] len p
  else if k = 14 then wordT [100, 101, 102, 101, 114, 32] len p
  else if k = 15 then [115, 101, 108, 101, 99, 116, 32, 123, 10] ++ (catTo (fun i => (p i).cs d) len ++ (tabsT d ++ [125]))
  else if k = 17 then [98, 114, 101, 97, 107]
  else if k = 18 then [99, 111, 110, 116, 105, 110, 117, 101]
  else if k = 19 then wordT [99, 108, 111, 115, 101, 40] len p ++ [41]
  else if k = 20 then wordT [112, 114, 105, 110, 116, 40] len p ++ [41]
  else if k = 21 then wordT [112, 97, 110, 105, 99, 40] len p ++ [41]
  else []

/-- A case's head. -/
def clauseT (n : Int) (s : List UInt8) (p : Nat → PrN) : List UInt8 :=
  if n = 0 then [100, 101, 102, 97, 117, 108, 116]
  else if n = 1 then [99, 97, 115, 101, 32] ++ ((if s = [] then [] else s ++ [32, 58, 61, 32]) ++ ([60, 45] ++ (p 0).ex 6))
  else [99, 97, 115, 101, 32] ++ ((p 0).ex 1 ++ ([32, 60, 45, 32] ++ (p 1).ex 1))

def prN : Nd → PrN
  | .nil => ⟨fun _ => [], fun _ => [], fun _ => [], fun _ => []⟩
  | .mk k n s len kids =>
    ⟨prEx k n s.data.toList len (fun i => (kids i).kind) (fun i => (kids i).name.data.toList) (fun i => prN (kids i)) (lvl s),
     prSt k n s.data.toList len (fun i => (kids i).kind) (fun i => prN (kids i)),
     fun d => catTo (fun i => tabsT d ++ ((prN (kids i)).st d ++ [10])) len,
     fun d => tabsT d ++ (clauseT n s.data.toList (fun i => prN (kids i)) ++ ([58, 10] ++ (prN (kids (len - 1))).sts (d + 1)))⟩

theorem prN_ex (T : Nd) (h : T.len ≠ 0 ∨ T.kind ≠ 0) : (prN T).ex = prEx T.kind T.num T.name.data.toList T.len (fun i => (T.kids i).kind) (fun i => (T.kids i).name.data.toList) (fun i => prN (T.kids i)) (lvl T.name) := by
  cases T with
  | nil => simp [Nd.len, Nd.kind] at h
  | mk => rfl
theorem prN_st (T : Nd) (h : T.len ≠ 0 ∨ T.kind ≠ 0) : (prN T).st = prSt T.kind T.num T.name.data.toList T.len (fun i => (T.kids i).kind) (fun i => prN (T.kids i)) := by
  cases T with
  | nil => simp [Nd.len, Nd.kind] at h
  | mk => rfl
theorem prN_sts (T : Nd) (d : Nat) : (prN T).sts d = catTo (fun i => tabsT d ++ ((prN (T.kids i)).st d ++ [10])) T.len := by cases T <;> rfl

/-- A function, and a file. -/
def funcT (T : Nd) : List UInt8 :=
  [102, 117, 110, 99, 32] ++ (T.name.data.toList ++ (40 :: (catTo (fun i => (if i = 0 then [] else [44, 32]) ++ ((T.kids i).name.data.toList ++ 32 :: typeT (T.kids i).num)) (T.len - 1) ++ ([41, 32] ++
    ((if T.num = 0 then [] else typeT T.num ++ [32]) ++ (blockT 0 ((prN (T.kids (T.len - 1))).sts 1) ++ [10]))))))
def fileT (T : Nd) : List UInt8 := catTo (fun i => (if i = 0 then [] else [10]) ++ funcT (T.kids i)) T.len
/-- What Print answers. -/
def printT (T : Nd) : List UInt8 := if treeB T then fileT T else []
end Go.Proofs.YtacamenjijlemaaGreatDoor

/- A text on the way: a struct of one slice of bytes behind a pointer, that grows at its end. -/
namespace Go.Proofs.YtacamenjijlemaaGreatDoor
open Go.RowKit

def u8s (l : List UInt8) : List Value := l.map fun b => Value.int .u8 b.toNat

/-- The text X lies behind the pointer to block ob; 'own' is the block of its bytes. -/
def Buf (ob : Nat) (w : World) (own : Option Nat) (X : List UInt8) : Prop :=
  ∃ v, w.heap[ob]? = some (.cells #[v] 52 (0, 0)) ∧ w.ownsRow (ob + 1) 5 1 v X.length (u8s X) ∧ v.ownBlock = own

/-- Nothing but the text was written. -/
structure Wrote (ob : Nat) (own own' : Option Nat) (w w' : World) : Prop where
  os : w'.os = w.os
  tape : w'.tape = w.tape
  output : w'.output = w.output
  size : w.heap.size ≤ w'.heap.size
  block : ∀ k, k < w.heap.size → k ≠ ob → some k ≠ own → w'.heap[k]? = w.heap[k]?
  fresh : own' = own ∨ ∃ k, own' = some k ∧ w.heap.size ≤ k

theorem Wrote.refl (ob : Nat) (own : Option Nat) (w : World) : Wrote ob own own w w := ⟨rfl, rfl, rfl, Nat.le_refl _, fun _ _ _ _ => rfl, .inl rfl⟩
theorem Wrote.trans {ob : Nat} {o0 o1 o2 : Option Nat} {a b c : World} (h : Wrote ob o0 o1 a b) (k : Wrote ob o1 o2 b c) : Wrote ob o0 o2 a c := by
  have hs := h.size
  refine ⟨k.os.trans h.os, k.tape.trans h.tape, k.output.trans h.output, Nat.le_trans h.size k.size, fun i hi h1 h2 => ?_, ?_⟩
  · refine (k.block i (by omega) h1 ?_).trans (h.block i hi h1 h2)
    rcases h.fresh with e | ⟨j, e, hj⟩
    · rw [e]; exact h2
    · rw [e]; intro e'; injection e' with e'; omega
  · rcases k.fresh with e | ⟨j, e, hj⟩
    · rw [e]; exact h.fresh
    · exact .inr ⟨j, e, by omega⟩
theorem Wrote.alloc (ob : Nat) (own : Option Nat) (w : World) (o : Obj) : Wrote ob own own w (w.alloc o) :=
  ⟨rfl, rfl, rfl, by simp, fun k hk _ _ => Below.heap_alloc w o k hk, .inl rfl⟩
theorem Buf.lt {ob : Nat} {w : World} {own : Option Nat} {X : List UInt8} (h : Buf ob w own X) : ob < w.heap.size := by
  obtain ⟨v, hv, _⟩ := h; exact (Array.getElem?_eq_some_iff.1 hv).1
theorem Buf.own_gt {ob : Nat} {w : World} {own : Option Nat} {X : List UInt8} (h : Buf ob w own X) : ∀ k, own = some k → ob < k ∧ k < w.heap.size := by
  obtain ⟨v, hv, ho, rfl⟩ := h; intro k hk; have := ho.lt k hk; omega
theorem Wrote.below {ob : Nat} {own own' : Option Nat} {w w' : World} {X : List UInt8} (h : Wrote ob own own' w w') (hb : Buf ob w own X) : Below ob w w' := by
  have := hb.lt
  refine ⟨h.os, h.tape, h.output, h.size, fun k hk => h.block k (by omega) (by omega) ?_⟩
  intro e; have := (hb.own_gt k e.symm).1; omega
/-- A block that is neither the text's nor the pointer's keeps its cells. -/
theorem Wrote.cell {ob : Nat} {own own' : Option Nat} {w w' : World} (h : Wrote ob own own' w w') {p : Addr} (hp : p.block < w.heap.size) (h1 : p.block ≠ ob) (h2 : some p.block ≠ own) : w'.cell? p = w.cell? p :=
  World.cell?_of_block (h.block p.block hp h1 h2)
theorem Buf.alloc {ob : Nat} {w : World} {own : Option Nat} {X : List UInt8} (h : Buf ob w own X) (o : Obj) : Buf ob (w.alloc o) own X := by
  have hl := h.lt
  obtain ⟨v, hv, ho, e⟩ := h
  exact ⟨v, (Below.heap_alloc w o ob hl).trans hv, ho.alloc o, e⟩
/-- A new one. -/
theorem Buf.new (w : World) : Buf w.heap.size (w.alloc (.cells #[.slice none 0 0] 52)) none [] :=
  ⟨.slice none 0 0, heap_alloc_new w _, World.ownsRow_nil _ _ _ _, rfl⟩

theorem info8 : (Tryz.prog.info? 5).map (fun i => (i.zero, i.size, i.bytes)) = some (some (.int .u8 0), 1, 1) := by kernel_rfl
theorem u8s_append (a b : List UInt8) : u8s (a ++ b) = u8s a ++ u8s b := List.map_append
theorem u8s_str (s : ByteArray) : Lib.strCells s = u8s s.data.toList := rfl

/-- What a writer of the text does. -/
def Adds (ob : Nat) (X T : List UInt8) (own : Option Nat) (w : World) (e : Ending) (w' : World) : Prop :=
  e = .returned (.tuple #[]) ∧ ∃ own', Buf ob w' own' (X ++ T) ∧ Wrote ob own own' w w'
end Go.Proofs.YtacamenjijlemaaGreatDoor

/- The specification's printer: a string is added, tabs are added. -/
namespace Go.Proofs.YtacamenjijlemaaGreatDoor
open Go.RowKit

/-- The pointer's block behind an append: it holds the new slice, and what it owns. -/
theorem Buf.put {ob : Nat} {w w1 : World} {v v1 : Value} {n m : Nat} {X Y : List UInt8} (hv : w.heap[ob]? = some (.cells #[v] 52 (0, 0))) (ho : w.ownsRow (ob + 1) 5 1 v n (u8s X))
    (h1 : w1.ownsRow (ob + 1) 5 1 v1 m (u8s Y)) (hm : m = Y.length) (hg : w.grownBy w1 v.ownBlock) (hf : v1.ownBlock = v.ownBlock ∨ ∃ k, v1.ownBlock = some k ∧ w.heap.size ≤ k) :
    Buf ob (w1.setCell ⟨ob, 0, none⟩ v1) v1.ownBlock Y ∧ Wrote ob v.ownBlock v1.ownBlock w (w1.setCell ⟨ob, 0, none⟩ v1) := by
  subst hm
  have hlt : ob < w.heap.size := (Array.getElem?_eq_some_iff.1 hv).1
  have hne : some ob ≠ v.ownBlock := by intro e; have := (ho.lt ob e.symm).1; omega
  have h2 : w1.heap[ob]? = some (.cells #[v] 52 (0, 0)) := (hg.block ob hlt hne).trans hv
  refine ⟨⟨v1, ?_, ownsRow_setCell_below h1 (show ob < ob + 1 by omega) v1, rfl⟩, ⟨?_, ?_, ?_, ?_, ?_, hf⟩⟩
  · exact (heap_setCell_same w1 ob 0 #[v] _ v1 h2).trans (by simp)
  · simpa [World.setCell] using hg.os
  · simpa [World.setCell] using hg.tape
  · simpa [World.setCell] using hg.output
  · simpa [World.setCell] using hg.size
  · intro k hk h3 h4
    rw [Below.heap_setCell w1 ⟨ob, 0, none⟩ v1 k h3]
    exact hg.block k hk h4

/-- Where the new slice lies: where the elder lay, or in a new block. -/
theorem append_fresh {P : Program} (w : World) (base : Nat) (t u ty e : TypeId) (i : TypeInfo) (ht : P.underlying t = some (.slice e)) (hu : P.underlying u = some .string) (hi : P.info? e = some i) (hz : i.zero = some (.int .u8 0))
    (hsize : i.size = 1) (hby : i.bytes = 1) (v : Value) (n : Nat) (xs : List Value) (hown : w.ownsRow base e 1 v n xs) (s : ByteArray) (hb : n + s.size ≤ 140737488355328) (hbase : base ≤ w.heap.size) :
    ∃ v' w', (Builtin.append_ #[t, u] ty #[v, .string s]).run P w = .ok v' w' ∧ w'.ownsRow base e 1 v' (n + s.size) (xs ++ Lib.strCells s) ∧ w.grownBy w' v.ownBlock ∧ (v'.ownBlock = v.ownBlock ∨ ∃ k, v'.ownBlock = some k ∧ w.heap.size ≤ k) ∧
      ∃ a l c, v' = .slice a l c := by
  have h63 : n + s.size ≤ maxLen := by unfold maxLen; omega
  have hxl : xs.length = n := by simpa using hown.1
  obtain ⟨v', w', hr, h2, h3, h4⟩ := Lib.run_append_own_string (P := P) w base t u ty e i ht hu hi hz hsize hby v n xs hown s h63 hb hbase
  have hsh : ∃ a l c, v' = .slice a l c := by
    rcases h2.2 with ⟨rfl, _⟩ | ⟨g, cap, cur, rfl, _⟩
    · exact ⟨_, _, _, rfl⟩
    · exact ⟨_, _, _, rfl⟩
  refine ⟨v', w', hr, h2, h3, ?_, hsh⟩
  rcases hown.2 with ⟨rfl, rfl⟩ | ⟨g, cap, cur, rfl, hbg, hg, hnc, hcm, hcs, htake⟩
  · by_cases hm : s.size = 0
    · exact .inl (by rw [h4.2 ⟨rfl, hm⟩])
    · have hr' := run_append_nil_string (P := P) w t u ty e i (.int .u8 0) ht hu hi hz s (by omega) (by omega) (by rw [hby]; omega)
      rw [hr'] at hr
      injection hr with e1 e2
      subst e1
      exact .inr ⟨w.heap.size, rfl, Nat.le_refl _⟩
  · by_cases hroom : n + s.size ≤ cap
    · have hcs' : cur.size = cap := by simpa using hcs
      have hr' := Lib.run_append_room_string (P := P) w t u ty e i ht hu hi hsize g n cap cur hg s hroom (by omega)
      rw [hr'] at hr
      injection hr with e1 e2
      subst e1
      exact .inl rfl
    · have holds : ∀ j u, xs[j]? = some u → w.cell? ((⟨g, 0, none⟩ : Addr).add j) = some u := hown.cells (g := g) rfl
      have hr' := Lib.run_append_grow_string (P := P) w t u ty e i (.int .u8 0) ht hu hi hz ⟨g, 0, none⟩ n cap xs (by rw [hsize]; simpa using hxl) holds s (by omega) (by omega) (by rw [hby]; exact growslice_fits (by omega) (by omega))
      rw [hr'] at hr
      injection hr with e1 e2
      subst e1
      exact .inr ⟨w.heap.size, rfl, Nat.le_refl _⟩

theorem wpList_append_fresh {P : Program} (w : World) {ops : Array Oper} {rest : List Oper} {o : Oper} {a : Act} {Q : Exit → Act → World → Prop} (hgd : o.guard = none) (sl x : Operand) (t u : TypeId)
    (ho : o.op = .call { callee := .builtin .append, args := #[sl, x], argTypes := #[t, u] })
    (base : Nat) (e : TypeId) (i : TypeInfo) (ht : P.underlying t = some (.slice e)) (hu : P.underlying u = some .string) (hi : P.info? e = some i) (hz : i.zero = some (.int .u8 0))
    (hsize : i.size = 1) (hby : i.bytes = 1)
    (v : Value) (n : Nat) (xs : List Value) (hs : a.eval sl = v) (hown : w.ownsRow base e 1 v n xs) (s : ByteArray) (hx : a.eval x = .string s)
    (hbytes : n + s.size ≤ 140737488355328) (hbase : base ≤ w.heap.size)
    (h : ∀ v' w', w'.ownsRow base e 1 v' (n + s.size) (xs ++ Lib.strCells s) → w.grownBy w' v.ownBlock → (v'.ownBlock = v.ownBlock ∨ ∃ k, v'.ownBlock = some k ∧ w.heap.size ≤ k) → Hid (∃ a l c, v' = .slice a l c) → wpList P ops Q rest (a.put o.dst v') w') : wpList P ops Q (o :: rest) a w := by
  refine wpList_plain hgd fun K hK => ?_
  obtain ⟨v', w', hr, h2, h3, h4, h5⟩ := append_fresh (P := P) w base t u o.type e i ht hu hi hz hsize hby v n xs hown s hbytes hbase
  unfold Oper.wp execOp
  simp only [ho, resolve, invoke, builtin, Sem.run_bind, Sem.run_pure, Result.andThen_ok, List.map_toArray, List.map_cons, List.map_nil, hs, hx, hr]
  exact hK _ _ (h v' w' h2 h3 h4 h5)

set_option maxHeartbeats 1000000 in
set_option maxRecDepth 100000 in
/-- A string is added. -/
theorem add_any (ob : Nat) (own : Option Nat) (X : List UInt8) (s : ByteArray) (w : World) (h : Buf ob w own X) (hb : X.length + s.size ≤ 1099511627776) :
    Calls Tryz.prog 19 #[.pointer (some ⟨ob, 0, none⟩), .string s] w (Adds ob X s.data.toList own w) := by
  have hlt := h.lt
  obtain ⟨i0, hi, hz0, hz1, hz2⟩ := info_parts info8
  obtain ⟨v, hv, ho, rfl⟩ := h
  have hne : some ob ≠ v.ownBlock := by intro e; have := (ho.lt ob e.symm).1; omega
  obtain ⟨a0, l0, c0, rfl⟩ : ∃ a l c, v = .slice a l c := by
    rcases ho.2 with ⟨rfl, _⟩ | ⟨g, cap, cur, rfl, _⟩
    · exact ⟨_, _, _, rfl⟩
    · exact ⟨_, _, _, rfl⟩
  have k0 : w.cell? ⟨ob, 0, none⟩ = some (.slice a0 l0 c0) := by simp [World.cell?, hv]
  have HV : Hid (w.heap[ob]? = some (.cells #[.slice a0 l0 c0] 52 (0, 0))) := hv
  have HO : Hid (w.ownsRow (ob + 1) 5 1 (.slice a0 l0 c0) X.length (u8s X)) := ho
  clear hv ho
  go_enter Tryz.func19, Tryz.ntmps19
  go_wp2_with (at_builtin; refine wpList_append_fresh _ rfl (.tmp 8) (.tmp 9) 39 9 rfl (ob + 1) 5 i0 Tryz.underlying39 Tryz.underlying9 hi hz0 hz1 hz2 _ X.length (u8s X) rfl HO.out s rfl (by omega) (by omega) ?_)
  intro v1 w1 h1 hg hf hsh
  obtain ⟨sa, sn, sc, rfl⟩ := hsh.out
  have h2 : w1.heap[ob]? = some (.cells #[.slice a0 l0 c0] 52 (0, 0)) := (hg.block ob hlt hne).trans HV.out
  have k1 : w1.cell? ⟨ob, 0, none⟩ = some (.slice a0 l0 c0) := by simp [World.cell?, h2]
  have f1 := frozen_of_row w1 ob 0 _ _ h2
  have H1 : Hid (w1.ownsRow (ob + 1) 5 1 (.slice sa sn sc) (X.length + s.size) (u8s (X ++ s.data.toList))) := by rw [u8s_append]; exact h1
  have HG : Hid (w.grownBy w1 (Value.slice a0 l0 c0).ownBlock) := hg
  have HF : Hid ((Value.slice sa sn sc).ownBlock = (Value.slice a0 l0 c0).ownBlock ∨ ∃ k, (Value.slice sa sn sc).ownBlock = some k ∧ w.heap.size ≤ k) := hf
  clear h1 hg hf h2
  go_wp2
  go_end0
  exact ⟨rfl, _, Buf.put HV.out HO.out H1.out (by rw [List.length_append, Array.length_toList]; rfl) HG.out HF.out⟩
end Go.Proofs.YtacamenjijlemaaGreatDoor

/- The specification's printer: tabs are added. -/
namespace Go.Proofs.YtacamenjijlemaaGreatDoor
open Go.RowKit

/-- As 'append_fresh', of a slice's cells. -/
theorem append_freshS {P : Program} (w : World) (base : Nat) (t ty e : TypeId) (i : TypeInfo) (ht : P.underlying t = some (.slice e)) (hi : P.info? e = some i) (hz : i.zero = some (.int .u8 0))
    (hsize : i.size = 1) (hby : i.bytes = 1) (v : Value) (n : Nat) (xs : List Value) (hown : w.ownsRow base e 1 v n xs)
    (a : Addr) (m c : Nat) (news : List Value) (hl : news.length = m * 1) (hnews : ∀ j u, news[j]? = some u → w.cell? (a.add j) = some u) (h1 : ∀ u ∈ news, u.oneCell' = true) (hb : n + m ≤ 140737488355328) (hbase : base ≤ w.heap.size) :
    ∃ v' w', (Builtin.append_ #[t, t] ty #[v, .slice (some a) m c]).run P w = .ok v' w' ∧ w'.ownsRow base e 1 v' (n + m) (xs ++ news) ∧ w.grownBy w' v.ownBlock ∧ (v'.ownBlock = v.ownBlock ∨ ∃ k, v'.ownBlock = some k ∧ w.heap.size ≤ k) ∧
      ∃ a l c, v' = .slice a l c := by
  have h63 : n + m ≤ maxLen := by unfold maxLen; omega
  have hxl : xs.length = n := by simpa using hown.1
  obtain ⟨v', w', hr, h2, h3, h4⟩ := run_append_own (P := P) w base t ty e i (.int .u8 0) 1 1 ht hi hz hsize hby rfl (by decide) v n xs hown a m c news hl hnews h1 h63 (by omega) hbase
  have hsh : ∃ a l c, v' = .slice a l c := by
    rcases h2.2 with ⟨rfl, _⟩ | ⟨g, cap, cur, rfl, _⟩
    · exact ⟨_, _, _, rfl⟩
    · exact ⟨_, _, _, rfl⟩
  refine ⟨v', w', hr, h2, h3, ?_, hsh⟩
  rcases hown.2 with ⟨rfl, rfl⟩ | ⟨g, cap, cur, rfl, hbg, hg, hnc, hcm, hcs, htake⟩
  · by_cases hm : m = 0
    · exact .inl (by rw [h4.2 ⟨rfl, hm⟩])
    · have hr' := run_append_nil (P := P) w t ty e i (.int .u8 0) ht hi hz a m c news (by rw [hsize]; exact hl) hnews (by omega) (by omega) (by rw [hby]; omega)
      rw [hr'] at hr
      injection hr with e1 e2
      subst e1
      exact .inr ⟨w.heap.size, rfl, Nat.le_refl _⟩
  · by_cases hroom : n + m ≤ cap
    · have hcs' : cur.size = cap := by simpa using hcs
      have hr' := run_append_room (P := P) w t ty e i ht hi g n cap cur hg a m c news (by rw [hsize]; exact hl) hnews h1 hroom (by rw [hsize]; omega)
      rw [hr'] at hr
      injection hr with e1 e2
      subst e1
      exact .inl rfl
    · have holds : ∀ j u, xs[j]? = some u → w.cell? ((⟨g, 0, none⟩ : Addr).add j) = some u := hown.cells (g := g) rfl
      have hr' := run_append_grow (P := P) w t ty e i (.int .u8 0) ht hi hz ⟨g, 0, none⟩ n cap xs (by rw [hsize]; simpa using hxl) holds a m c news (by rw [hsize]; exact hl) hnews (by omega) (by omega) (by rw [hby]; exact growslice_fits (by omega) (by omega))
      rw [hr'] at hr
      injection hr with e1 e2
      subst e1
      exact .inr ⟨w.heap.size, rfl, Nat.le_refl _⟩

theorem wpList_append_freshS {P : Program} (w : World) {ops : Array Oper} {rest : List Oper} {o : Oper} {a : Act} {Q : Exit → Act → World → Prop} (hgd : o.guard = none) (sl x : Operand) (t : TypeId)
    (ho : o.op = .call { callee := .builtin .append, args := #[sl, x], argTypes := #[t, t] })
    (base : Nat) (e : TypeId) (i : TypeInfo) (ht : P.underlying t = some (.slice e)) (hi : P.info? e = some i) (hz : i.zero = some (.int .u8 0))
    (hsize : i.size = 1) (hby : i.bytes = 1)
    (v : Value) (n : Nat) (xs : List Value) (hs : a.eval sl = v) (hown : w.ownsRow base e 1 v n xs)
    (ad : Addr) (m c : Nat) (news : List Value) (hx : a.eval x = .slice (some ad) m c) (hl : news.length = m * 1) (hnews : ∀ j u, news[j]? = some u → w.cell? (ad.add j) = some u) (h1 : ∀ u ∈ news, u.oneCell' = true)
    (hbytes : n + m ≤ 140737488355328) (hbase : base ≤ w.heap.size)
    (h : ∀ v' w', w'.ownsRow base e 1 v' (n + m) (xs ++ news) → w.grownBy w' v.ownBlock → (v'.ownBlock = v.ownBlock ∨ ∃ k, v'.ownBlock = some k ∧ w.heap.size ≤ k) → Hid (∃ a l c, v' = .slice a l c) → wpList P ops Q rest (a.put o.dst v') w') : wpList P ops Q (o :: rest) a w := by
  refine wpList_plain hgd fun K hK => ?_
  obtain ⟨v', w', hr, h2, h3, h4, h5⟩ := append_freshS (P := P) w base t o.type e i ht hi hz hsize hby v n xs hown ad m c news hl hnews h1 hbytes hbase
  unfold Oper.wp execOp
  simp only [ho, resolve, invoke, builtin, Sem.run_bind, Sem.run_pure, Result.andThen_ok, List.map_toArray, List.map_cons, List.map_nil, hs, hx, hr]
  exact hK _ _ (h v' w' h2 h3 h4 h5)

set_option maxHeartbeats 1000000 in
set_option maxRecDepth 100000 in
/-- Tabs are added. -/
theorem tabs_any (ob : Nat) (own : Option Nat) (X : List UInt8) (d : Nat) (w : World) (h : Buf ob w own X) (hb : X.length + d ≤ 1099511627776) :
    Calls Tryz.prog 30 #[.pointer (some ⟨ob, 0, none⟩), .int .i64 d] w (Adds ob X (List.replicate d 9) own w) := by
  obtain ⟨i0, hi, hz0, hz1, hz2⟩ := info_parts info8
  have H := (show Hid (Buf ob w own X) from h)
  clear h
  go_enter Tryz.func30, Tryz.ntmps30
  go_wp2
  go_loopw [1] (fun i wr => ∃ k : Nat, k ≤ d ∧ i = .int .i64 k ∧ ∃ own', Buf ob wr own' (X ++ List.replicate (d - k) 9) ∧ Wrote ob own own' w wr) (fun i _ => (intOf i).toNat)
  case atStart => exact ⟨d, Nat.le_refl _, rfl, own, by simpa using H.out, Wrote.refl _ _ _⟩
  case round =>
    obtain ⟨k, hk, rfl, own', hbf, hwr⟩ := hrel
    by_cases hk0 : k = 0
    · subst hk0
      have HB2 : Hid (Buf ob wr own' (X ++ List.replicate d 9)) := hbf
      have HW : Hid (Wrote ob own own' w wr) := hwr
      clear hbf hwr
      go_wp2
      go_end0
      exact ⟨rfl, own', HB2.out, HW.out⟩
    · have hlt := hbf.lt
      have hkp : 0 < k := by omega
      obtain ⟨v, hv, ho, rfl⟩ := hbf
      have hne : some ob ≠ v.ownBlock := by intro e; have := (ho.lt ob e.symm).1; omega
      have hYl : (X ++ List.replicate (d - k) 9).length + 1 ≤ 1099511627776 := by rw [List.length_append, List.length_replicate]; omega
      have hYs : (X ++ List.replicate (d - k) 9) ++ [9] = X ++ List.replicate (d - (k - 1)) 9 := by
        rw [List.append_assoc, show d - (k - 1) = (d - k) + 1 by omega, List.replicate_succ']
      generalize X ++ List.replicate (d - k) 9 = Y at *
      obtain ⟨a0, l0, c0, rfl⟩ : ∃ a l c, v = .slice a l c := by
        rcases ho.2 with ⟨rfl, _⟩ | ⟨g, cap, cur, rfl, _⟩
        · exact ⟨_, _, _, rfl⟩
        · exact ⟨_, _, _, rfl⟩
      have k0 : wr.cell? ⟨ob, 0, none⟩ = some (.slice a0 l0 c0) := by simp [World.cell?, hv]
      have HV : Hid (∀ o : Obj, (wr.alloc o).heap[ob]? = some (.cells #[.slice a0 l0 c0] 52 (0, 0))) := fun o => (Below.heap_alloc wr o ob hlt).trans hv
      have HO : Hid (∀ o : Obj, (wr.alloc o).ownsRow (ob + 1) 5 1 (.slice a0 l0 c0) Y.length (u8s Y)) := fun o => ho.alloc o
      have HW : Hid (Wrote ob own (Value.slice a0 l0 c0).ownBlock w wr) := hwr
      have HE : Hid (Y ++ [9] = X ++ List.replicate (d - (k - 1)) 9) := hYs
      clear hv ho hwr hYs
      go_wp2_with (at_builtin; refine wpList_append_freshS _ rfl (.tmp 12) (.tmp 13) 39 rfl (ob + 1) 5 i0 Tryz.underlying39 hi hz0 hz1 hz2 _ Y.length (u8s Y) rfl (HO.out _) ⟨wr.heap.size, 0, none⟩ 1 1 [.int .u8 9] rfl rfl (by intro j u hj; rcases j with _ | j <;> simp_all [Addr.add]) (by intro u hu; simp at hu; subst hu; rfl) (by omega) (by simp; omega) ?_)
      intro v1 w1 h1 hg hf hsh
      obtain ⟨sa, sn, sc, rfl⟩ := hsh.out
      have h2 : w1.heap[ob]? = some (.cells #[.slice a0 l0 c0] 52 (0, 0)) := (hg.block ob (by simp; omega) hne).trans (HV.out _)
      have k1 : w1.cell? ⟨ob, 0, none⟩ = some (.slice a0 l0 c0) := by simp [World.cell?, h2]
      have f1 := frozen_of_row w1 ob 0 _ _ h2
      have hp := Buf.put (Y := Y ++ [9]) (HV.out _) (HO.out _) (by rw [u8s_append]; exact h1) (by simp) hg (by simpa using hf)
      have HP : Hid (Buf ob (w1.setCell ⟨ob, 0, none⟩ (.slice sa sn sc)) (Value.slice sa sn sc).ownBlock (X ++ List.replicate (d - (k - 1)) 9) ∧ Wrote ob own (Value.slice sa sn sc).ownBlock w (w1.setCell ⟨ob, 0, none⟩ (.slice sa sn sc))) :=
        ⟨HE.out ▸ hp.1, HW.out.trans ((Wrote.alloc _ _ _ _).trans hp.2)⟩
      clear h1 hg hf h2 hp hsh
      go_wp2
      exact ⟨⟨k - 1, by omega, by go_num, _, HP.out⟩, by simp [intOf]; omega⟩
end Go.Proofs.YtacamenjijlemaaGreatDoor

/- The specification's digits of a number. -/
namespace Go.Proofs.YtacamenjijlemaaGreatDoor
open Go.RowKit

def DigC (f : Nat) : Prop := ∀ (n : Nat) (w : World), n < 10 ^ (f + 1) → n ≤ 9223372036854775807 →
  Calls Tryz.prog 74 #[.int .i64 n] w fun e w' => e = .returned (.string (strT (digF (f + 1) n))) ∧ Below w.heap.size w w'

/-- One byte as a string. -/
theorem conv_at (W : World) (n : Nat) (x : Int) (hx : x = 48 + (n : Int)) (hn : n < 10) (g : Nat) (hg : W.cell? ⟨g, 0, none⟩ = some (.int .u8 x)) :
    (convert 39 9 (.slice (some ⟨g, 0, none⟩) 1 1)).run Tryz.prog W = .ok (.string (strT [UInt8.ofNat (48 + n)])) W := by
  refine run_convert_bytes_back (P := Tryz.prog) W 39 9 5 ⟨g, 0, none⟩ 1 [UInt8.ofNat (48 + n)] Tryz.underlying39 Tryz.underlying5 Tryz.underlying9 ?_
  intro j hj
  obtain rfl : j = 0 := by simp at hj; omega
  have e : ((UInt8.ofNat (48 + n)).toNat : Int) = x := by
    rw [hx, UInt8.toNat_ofNat', Nat.mod_eq_of_lt (by omega)]; omega
  simp only [List.getElem_cons_zero, e]
  simpa [Addr.add] using hg
theorem conv_one (W : World) (n : Nat) (x : Int) (hx : x = 48 + (n : Int)) (hn : n < 10) :
    (convert 39 9 (.slice (some ⟨W.heap.size, 0, none⟩) 1 1)).run Tryz.prog (W.alloc (.cells #[.int .u8 x] 5)) = .ok (.string (strT [UInt8.ofNat (48 + n)])) (W.alloc (.cells #[.int .u8 x] 5)) := by
  refine run_convert_bytes_back (P := Tryz.prog) (W.alloc (.cells #[.int .u8 x] 5)) 39 9 5 ⟨W.heap.size, 0, none⟩ 1 [UInt8.ofNat (48 + n)] Tryz.underlying39 Tryz.underlying5 Tryz.underlying9 ?_
  intro j hj
  obtain rfl : j = 0 := by simp at hj; omega
  have e : ((UInt8.ofNat (48 + n)).toNat : Int) = x := by
    rw [hx, UInt8.toNat_ofNat', Nat.mod_eq_of_lt (by omega)]; omega
  simp only [List.getElem_cons_zero, e]
  simp [Addr.add]

set_option maxHeartbeats 1000000 in
set_option maxRecDepth 100000 in
theorem dig_low (n : Nat) (w : World) (hn : n < 10) : Calls Tryz.prog 74 #[.int .i64 n] w fun e w' => e = .returned (.string (strT [UInt8.ofNat (48 + n)])) ∧ Below w.heap.size w w' := by
  have hcv := conv_one w n (48 + n) rfl hn
  have HB : Hid (∀ o, Below w.heap.size w (w.alloc o)) := fun o => (Below.refl _ _).alloc (Nat.le_refl _) _
  generalize strT [UInt8.ofNat (48 + n)] = r at *
  go_enter Tryz.func74, Tryz.ntmps74
  go_wp2
  go_ret
  exact ⟨rfl, HB.out _⟩

theorem digF_step (f n : Nat) (hn : ¬ n < 10) : digF (f + 2) n = digF (f + 1) (n / 10) ++ [UInt8.ofNat (48 + n % 10)] := by
  rw [digF, if_neg hn]
set_option maxHeartbeats 2000000 in
set_option maxRecDepth 100000 in
theorem dig_high (f n : Nat) (w : World) (hn : ¬ n < 10) (hm : n ≤ 9223372036854775807) (ih : ∀ w : World, Calls Tryz.prog 74 #[.int .i64 ((n / 10 : Nat) : Int)] w fun e w' => e = .returned (.string (strT (digF (f + 1) (n / 10)))) ∧ Below w.heap.size w w') (hl : (digF (f + 1) (n / 10)).length ≤ 100) :
    Calls Tryz.prog 74 #[.int .i64 n] w fun e w' => e = .returned (.string (strT (digF (f + 2) n))) ∧ Below w.heap.size w w' := by
  rw [digF_step f n hn]
  have hq : Int.tdiv (n : Int) 10 = ((n / 10 : Nat) : Int) := by rfl
  have hr : Int.tmod (n : Int) 10 = ((n % 10 : Nat) : Int) := by rfl
  have hr9 : n % 10 < 10 := Nat.mod_lt _ (by decide)
  have HI := hid_mk ih
  have HC := hid_mk fun (W : World) (g : Nat) (hg : W.cell? ⟨g, 0, none⟩ = some (.int .u8 (48 + ((n % 10 : Nat) : Int)))) => conv_at W (n % 10) _ rfl hr9 g hg
  have hq0 : (0 : Int) ≤ ((n / 10 : Nat) : Int) ∧ ((n / 10 : Nat) : Int) ≤ 9223372036854775807 := by omega
  have HS := hid_mk (strT_append (digF (f + 1) (n / 10)) [UInt8.ofNat (48 + n % 10)])
  have hs1 : (strT (digF (f + 1) (n / 10))).size ≤ 100 := by simpa [strT, ByteArray.size] using hl
  have hs2 : (strT [UInt8.ofNat (48 + n % 10)]).size = 1 := rfl
  generalize n / 10 = q at *
  generalize n % 10 = r at *
  have hw1 : IntKind.i64.wrap (q : Int) = q := by simp [IntKind.wrap, IntKind.bits, IntKind.signed]; omega
  have hw2 : IntKind.i64.wrap (48 + (r : Int)) = 48 + r := by simp [IntKind.wrap, IntKind.bits, IntKind.signed]; omega
  have hw3 : IntKind.u8.wrap (48 + (r : Int)) = 48 + r := by simp [IntKind.wrap, IntKind.bits, IntKind.signed]; omega
  have hcv1 : ∀ W : World, (convert 39 9 (.slice (some ⟨W.heap.size, 0, none⟩) 1 1)).run Tryz.prog (W.alloc (.cells #[.int .u8 (48 + (r : Int))] 5)) = .ok (.string (strT [UInt8.ofNat (48 + r)])) (W.alloc (.cells #[.int .u8 (48 + (r : Int))] 5)) :=
    fun W => HC.out _ _ (by simp)
  have hcv2 : (convert 39 9 (.slice (some ⟨w.heap.size, 0, none⟩) 1 1)).run Tryz.prog (w.alloc (.cells #[.int .u8 (48 + (r : Int))] 5)).drew = .ok (.string (strT [UInt8.ofNat (48 + r)])) (w.alloc (.cells #[.int .u8 (48 + (r : Int))] 5)).drew :=
    HC.out _ _ (by simp)
  have HC3 : Hid (∀ W' : World, Below (w.alloc (.cells #[.int .u8 (48 + (r : Int))] 5)).drew.heap.size (w.alloc (.cells #[.int .u8 (48 + (r : Int))] 5)).drew W' → (convert 39 9 (.slice (some ⟨w.heap.size, 0, none⟩) 1 1)).run Tryz.prog W' = .ok (.string (strT [UInt8.ofNat (48 + r)])) W') :=
    fun W' hb => HC.out _ _ (by rw [hb.cell (p := ⟨w.heap.size, 0, none⟩) (by simp)]; simp)
  have HBa : Hid (∀ (W' : World) (o : Obj), Below w.drew.heap.size w.drew W' → Below w.heap.size w (W'.alloc o)) := fun W' o hb =>
    (show Below w.heap.size w W' from ⟨hb.os, hb.tape, hb.output, hb.size, hb.block⟩).alloc hb.size _
  have HBb : Hid (∀ (W' : World) (o : Obj), Below (w.alloc o).drew.heap.size (w.alloc o).drew W' → Below w.heap.size w W') := fun W' o hb =>
    ((Below.refl w.heap.size w).alloc (Nat.le_refl _) o).trans ((show Below (w.alloc o).heap.size (w.alloc o) W' from ⟨hb.os, hb.tape, hb.output, hb.size, hb.block⟩).mono (by simp))
  rw [← HS.out]
  generalize strT (digF (f + 1) q) = s1 at *
  generalize strT [UInt8.ofNat (48 + r)] = s2 at *
  clear ih
  go_enter Tryz.func74, Tryz.ntmps74
  go_wp2
  go_region_with (go_at_call 74; refine (HI.out _).mono ?_; rintro e w' ⟨rfl, hb⟩; (try have hcv3 := HC3.out _ hb))
  all_goals go_wp2
  all_goals go_ret
  all_goals first | exact ⟨rfl, HBa.out _ _ hb⟩ | exact ⟨rfl, HBb.out _ _ hb⟩

theorem digF_len (f : Nat) : ∀ n, (digF f n).length ≤ f := by
  induction f with
  | zero => intro n; simp [digF]
  | succ f ih => intro n; rw [digF]; split; simp; simp; exact ih _
theorem dig_all (f : Nat) (hf : f ≤ 90) : DigC f := by
  induction f with
  | zero =>
    intro n w h hm
    have h : n < 10 := by simpa using h
    have e : digF 1 n = [UInt8.ofNat (48 + n)] := by simp [digF, h]
    rw [e]; exact dig_low n w h
  | succ f ih =>
    intro n w h hm
    by_cases hn : n < 10
    · have e : digF (f + 2) n = [UInt8.ofNat (48 + n)] := by simp [digF, hn]
      rw [e]; exact dig_low n w hn
    · refine dig_high f n w hn hm (fun w => ih (by omega) (n / 10) w (by rw [Nat.pow_succ] at h; omega) (by omega)) ?_
      have := digF_len (f + 1) (n / 10)
      omega
/-- The digits of a number that a tree may hold. -/
theorem dig_any (n : Nat) (w : World) (h : n ≤ 999999999999999999) : Calls Tryz.prog 74 #[.int .i64 n] w fun e w' => e = .returned (.string (strT (digF 20 n))) ∧ Below w.heap.size w w' :=
  dig_all 19 (by decide) n w (by have : (10 : Nat) ^ 20 = 100000000000000000000 := by decide
                                 omega) (by omega)
end Go.Proofs.YtacamenjijlemaaGreatDoor

/- The specification's printer: where a writing function stands. -/
namespace Go.Proofs.YtacamenjijlemaaGreatDoor
open Go.RowKit

/-- The text Y is written behind ob, and nothing else since w0. -/
structure Pst (ob : Nat) (own0 : Option Nat) (w0 : World) (Y : List UInt8) (w : World) : Prop where
  buf : ∃ own, Buf ob w own Y ∧ Wrote ob own0 own w0 w
  below : Below ob w0 w

theorem Buf.calm {ob : Nat} {w w' : World} {own : Option Nat} {X : List UInt8} (h : Buf ob w own X) (hb : Below w.heap.size w w') : Buf ob w' own X := by
  have hl := h.lt
  obtain ⟨v, hv, ho, e⟩ := h
  refine ⟨v, (hb.block ob hl).trans hv, ⟨ho.1, ?_⟩, e⟩
  rcases ho.2 with h | ⟨g, cap, cur, h1, h2, h3, h4⟩
  · exact .inl h
  · exact .inr ⟨g, cap, cur, h1, h2, (hb.block g (Array.getElem?_eq_some_iff.1 h3).1).trans h3, h4⟩
theorem Wrote.calm {ob : Nat} {own own' : Option Nat} {w0 w w' : World} (h : Wrote ob own own' w0 w) (hb : Below w.heap.size w w') : Wrote ob own own' w0 w' := by
  have hs := h.size
  exact ⟨hb.os.trans h.os, hb.tape.trans h.tape, hb.output.trans h.output, Nat.le_trans h.size hb.size, fun k hk h1 h2 => (hb.block k (by omega)).trans (h.block k hk h1 h2), h.fresh⟩

theorem Pst.start {ob : Nat} {own : Option Nat} {w : World} {X : List UInt8} (h : Buf ob w own X) : Pst ob own w X w := ⟨⟨own, h, Wrote.refl _ _ _⟩, Below.refl _ _⟩
theorem Pst.lt {ob : Nat} {own0 : Option Nat} {w0 w : World} {Y : List UInt8} (h : Pst ob own0 w0 Y w) : ob < w.heap.size := by
  obtain ⟨own, hb, _⟩ := h.buf; exact hb.lt
theorem Pst.calm {ob : Nat} {own0 : Option Nat} {w0 w w' : World} {Y : List UInt8} (h : Pst ob own0 w0 Y w) (hb : Below w.heap.size w w') : Pst ob own0 w0 Y w' := by
  have hl := h.lt
  obtain ⟨own, h1, h2⟩ := h.buf
  exact ⟨⟨own, h1.calm hb, h2.calm hb⟩, h.below.trans (hb.mono (by omega))⟩
theorem Pst.alloc {ob : Nat} {own0 : Option Nat} {w0 w : World} {Y : List UInt8} (h : Pst ob own0 w0 Y w) (o : Obj) : Pst ob own0 w0 Y (w.alloc o) :=
  h.calm ((Below.refl _ _).alloc (Nat.le_refl _) _)
theorem Pst.drew {ob : Nat} {own0 : Option Nat} {w0 w : World} {Y : List UInt8} (h : Pst ob own0 w0 Y w) : Pst ob own0 w0 Y w.drew :=
  h.calm ⟨rfl, rfl, rfl, Nat.le_refl _, fun _ _ => rfl⟩
theorem Pst.lift {P : Program} {f : FuncId} {args : Array Value} {ob : Nat} {own0 : Option Nat} {w0 w : World} {Y t : List UInt8} (h : Pst ob own0 w0 Y w)
    (H : ∀ own, Buf ob w own Y → Calls P f args w (Adds ob Y t own w)) : Calls P f args w fun e w' => e = .returned (.tuple #[]) ∧ Pst ob own0 w0 (Y ++ t) w' := by
  obtain ⟨own, h1, h2⟩ := h.buf
  refine (H own h1).mono ?_
  rintro e w' ⟨he, own', h3, h4⟩
  exact ⟨he, ⟨own', h3, h2.trans h4⟩, h.below.trans (h4.below h1)⟩
theorem Pst.adds {ob : Nat} {own0 : Option Nat} {w0 w : World} {X Y T : List UInt8} (h : Pst ob own0 w0 Y w) (e : Y = X ++ T) : Adds ob X T own0 w0 (.returned (.tuple #[])) w := by
  obtain ⟨own, h1, h2⟩ := h.buf
  exact ⟨rfl, own, e ▸ h1, h2⟩

theorem Pst.add {ob : Nat} {own0 : Option Nat} {w0 w : World} {Y : List UInt8} (h : Pst ob own0 w0 Y w) (s : ByteArray) (hb : Y.length + s.data.toList.length ≤ 1099511627776) :
    Calls Tryz.prog 19 #[.pointer (some ⟨ob, 0, none⟩), .string s] w fun e w' => e = .returned (.tuple #[]) ∧ Pst ob own0 w0 (Y ++ s.data.toList) w' :=
  h.lift fun own hbuf => add_any ob own Y s w hbuf (by simpa using hb)
theorem Pst.tabs {ob : Nat} {own0 : Option Nat} {w0 w : World} {Y : List UInt8} (h : Pst ob own0 w0 Y w) (d : Nat) (hb : Y.length + d ≤ 1099511627776) :
    Calls Tryz.prog 30 #[.pointer (some ⟨ob, 0, none⟩), .int .i64 d] w fun e w' => e = .returned (.tuple #[]) ∧ Pst ob own0 w0 (Y ++ tabsT d) w' :=
  h.lift fun own hbuf => tabs_any ob own Y d w hbuf hb

/-- What is asked of each writer of a node. -/
def ExC (T : Nd) : Prop := ∀ (ob : Nat) (own : Option Nat) (X : List UInt8) (l : Nat) (w : World) (v : Value), Buf ob w own X → T.Fine → Row 0 ob w T v → T.eOk = true → l ≤ 6 →
  X.length + ((prN T).ex l).length ≤ 1099511627776 → Calls Tryz.prog 59 #[.pointer (some ⟨ob, 0, none⟩), T.val v, .int .i64 l] w (Adds ob X ((prN T).ex l) own w)
def SmC (T : Nd) : Prop := ∀ (ob : Nat) (own : Option Nat) (X : List UInt8) (d : Nat) (w : World) (v : Value), Buf ob w own X → T.Fine → Row 0 ob w T v → T.sOk = true →
  X.length + ((prN T).st d).length ≤ 1099511627776 → Calls Tryz.prog 46 #[.pointer (some ⟨ob, 0, none⟩), T.val v, .int .i64 d] w (Adds ob X ((prN T).st d) own w)

theorem Pst.expr {T : Nd} (hT : ExC T) {ob : Nat} {own0 : Option Nat} {w0 w : World} {Y : List UInt8} (h : Pst ob own0 w0 Y w) (l : Nat) (v : Value) (hf : T.Fine) (hr : Row 0 ob w0 T v) (hok : T.eOk = true) (hl : l ≤ 6) (hb : Y.length + ((prN T).ex l).length ≤ 1099511627776) :
    Calls Tryz.prog 59 #[.pointer (some ⟨ob, 0, none⟩), T.val v, .int .i64 l] w fun e w' => e = .returned (.tuple #[]) ∧ Pst ob own0 w0 (Y ++ (prN T).ex l) w' :=
  h.lift fun own hbuf => hT ob own Y l w v hbuf hf (row_below h.below (Nat.le_refl _) hr) hok hl hb
theorem Pst.stmt {T : Nd} (hT : SmC T) {ob : Nat} {own0 : Option Nat} {w0 w : World} {Y : List UInt8} (h : Pst ob own0 w0 Y w) (d : Nat) (v : Value) (hf : T.Fine) (hr : Row 0 ob w0 T v) (hok : T.sOk = true) (hb : Y.length + ((prN T).st d).length ≤ 1099511627776) :
    Calls Tryz.prog 46 #[.pointer (some ⟨ob, 0, none⟩), T.val v, .int .i64 d] w fun e w' => e = .returned (.tuple #[]) ∧ Pst ob own0 w0 (Y ++ (prN T).st d) w' :=
  h.lift fun own hbuf => hT ob own Y d w v hbuf hf (row_below h.below (Nat.le_refl _) hr) hok hb

/-- A kid's cells, in every world that keeps what lies below. -/
theorem kid_at {T : Nd} {ob : Nat} {w0 : World} {v : Value} (hr : Row 0 ob w0 T v) (h0 : T.len ≠ 0) : ∃ g off cap, v = .slice (some ⟨g, off, none⟩) T.len cap ∧ g < ob ∧ (T.len ≤ cap ∧ cap ≤ 9223372036854775807) ∧ ∀ i, i < T.len →
    ∃ u, (∀ W, Below ob w0 W → W.cell? ⟨g, off + i * 4, none⟩ = some (.int .i64 (T.kids i).kind) ∧ W.cell? ⟨g, off + i * 4 + 1, none⟩ = some (.int .i64 (T.kids i).num) ∧
        W.cell? ⟨g, off + i * 4 + 2, none⟩ = some (.string (T.kids i).name) ∧ W.cell? ⟨g, off + i * 4 + 3, none⟩ = some u) ∧ Row 0 ob w0 (T.kids i) u := by
  obtain ⟨a, cap, rfl, hc, h⟩ := row_eq.1 hr
  rcases h with h | ⟨g, off, rfl, _, h2, h3⟩
  · exact absurd h h0
  refine ⟨g, off, cap, rfl, h2, hc, fun i hi => ?_⟩
  obtain ⟨u, e0, e1, e2, e3, hr⟩ := h3 i hi
  refine ⟨u, fun W hb => ?_, hr⟩
  have hc : ∀ o, W.cell? ⟨g, o, none⟩ = w0.cell? ⟨g, o, none⟩ := fun o => hb.cell (p := ⟨g, o, none⟩) h2
  exact ⟨(hc _).trans e0, (hc _).trans e1, (hc _).trans e2, (hc _).trans e3⟩

/-- A node that is handed over lies in a block of its own. -/
theorem Pst.startB {ob : Nat} {own : Option Nat} {w : World} {X : List UInt8} (h : Buf ob w own X) (o : Obj) : Pst ob own (w.alloc o) X (w.alloc o) := Pst.start (h.alloc o)
theorem Pst.box {ob : Nat} {own : Option Nat} {w W : World} {X Y : List UInt8} {o : Obj} (h0 : Buf ob w own X) (h : Pst ob own (w.alloc o) Y W) : W.heap[w.heap.size]? = some o := by
  obtain ⟨own', hb, hw⟩ := h.buf
  have hl := h0.lt
  rw [hw.block w.heap.size (by simp) (by omega) (by intro e; have := (h0.own_gt _ e.symm).2; omega)]
  exact heap_alloc_new w o
theorem Pst.node {ob : Nat} {own : Option Nat} {w : World} {X : List UInt8} (h0 : Buf ob w own X) (a b c d : Value) (t : TypeId) : ∀ Y W, Pst ob own (w.alloc (.cells #[a, b, c, d] t)) Y W →
    W.cell? ⟨w.heap.size, 0, none⟩ = some a ∧ W.cell? ⟨w.heap.size, 1, none⟩ = some b ∧ W.cell? ⟨w.heap.size, 2, none⟩ = some c ∧ W.cell? ⟨w.heap.size, 3, none⟩ = some d := by
  intro Y W h
  have e := h.box h0
  refine ⟨?_, ?_, ?_, ?_⟩ <;> simp [World.cell?, e]
theorem Pst.addsB {ob : Nat} {own : Option Nat} {w W : World} {X Y T : List UInt8} {o : Obj} (h : Pst ob own (w.alloc o) Y W) (e : Y = X ++ T) : Adds ob X T own w (.returned (.tuple #[])) W := by
  obtain ⟨own', h1, h2⟩ := h.buf
  exact ⟨rfl, own', e ▸ h1, (Wrote.alloc ob own w o).trans h2⟩
theorem Pst.belowB {ob : Nat} {own : Option Nat} {w W : World} {X Y : List UInt8} {o : Obj} (h0 : Buf ob w own X) (h : Pst ob own (w.alloc o) Y W) : Below ob w W := by
  have hl := h0.lt
  exact ((Below.refl ob w).alloc (by omega) o).trans h.below
theorem row_alloc {ob : Nat} {own : Option Nat} {w : World} {X : List UInt8} (h0 : Buf ob w own X) {T : Nd} {v : Value} (h : Row 0 ob w T v) (o : Obj) : Row 0 ob (w.alloc o) T v := by
  have hl := h0.lt
  exact row_below ((Below.refl _ _).alloc (Nat.le_refl _) _) (by omega) h

theorem catTo_le (f : Nat → List UInt8) {a b : Nat} (h : a ≤ b) : (catTo f a).length ≤ (catTo f b).length := by
  induction h with
  | refl => exact Nat.le_refl _
  | step _ ih => simp only [catTo, List.length_append]; omega
theorem catTo_at (f : Nat → List UInt8) {a b : Nat} (h : a < b) : (catTo f a).length + (f a).length ≤ (catTo f b).length := by
  have := catTo_le f (show a + 1 ≤ b from h)
  simpa only [catTo, List.length_append] using this
end Go.Proofs.YtacamenjijlemaaGreatDoor
