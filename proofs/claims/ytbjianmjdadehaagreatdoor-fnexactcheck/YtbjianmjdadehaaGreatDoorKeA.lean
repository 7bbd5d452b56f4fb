/- Maps keyed by strings, as functions. -/
import Derived.Test.YtbjianmjdadehaaGreatDoorKdA
import Derived.Maps.OwnSet
import Derived.Maps.OwnOps
import Derived.StringKeys
import Derived.Test.YtbjianmjdadehaaGreatDoorKdO
import Derived.StillTailTactics
import Derived.Deep.QuietTactic
import Derived.BigQuiet
set_option linter.unusedVariables false
namespace Go.Proofs.YtbjianmjdadehaaGreatDoor
open Go.RowKit

def hv (v : Value) : Option (DataW Value × List MemPlace) := some (.held v, [])
def MapAt (w : World) (b n : Nat) (m : ByteArray → Option Value) : Prop :=
  ∃ D : DataW Value, w.ownsMap Tryz.prog 9 hv b n D ∧ Maps.IsMap D ∧ ∀ s : ByteArray, (∀ z, D.atKey (.string s.data.toList) z = match m s with | some v => .held v | none => z) ∧ Maps.has D (.string s.data.toList) = (m s).isSome
def updM (m : ByteArray → Option Value) (s : ByteArray) (v : Value) : ByteArray → Option Value := fun t => if t = s then some v else m t
theorem skey : Maps.Keyed Tryz.prog 9 := Maps.string_keyed Tryz.underlying9
theorem mapAt_made (w : World) : MapAt (w.alloc (.map #[] 0)) w.heap.size 0 (fun _ => none) :=
  ⟨.map [], World.ownsMap_made w _ _ _, Maps.isMap_empty, fun s => ⟨fun z => rfl, rfl⟩⟩
theorem MapAt.lt {w : World} {b n : Nat} {m : ByteArray → Option Value} (h : MapAt w b n m) : b < w.heap.size := by obtain ⟨D, h1, _⟩ := h; exact h1.lt
theorem MapAt.mono {w : World} {b n n' : Nat} {m : ByteArray → Option Value} (h : MapAt w b n m) (hn : n ≤ n') : MapAt w b n' m := by obtain ⟨D, h1, h2⟩ := h; exact ⟨D, h1.mono hn, h2⟩
theorem MapAt.same {w w' : World} {b n : Nat} {m : ByteArray → Option Value} (h : MapAt w b n m) (hb : w'.heap[b]? = w.heap[b]?) : MapAt w' b n m := by
  obtain ⟨D, ⟨es, clock, h1, h2⟩, h3⟩ := h
  exact ⟨D, ⟨es, clock, hb.trans h1, h2⟩, h3⟩
theorem MapAt.isMap {w : World} {b n : Nat} {m : ByteArray → Option Value} (h : MapAt w b n m) : ∃ es clock, w.heap[b]? = some (.map es clock) := by
  obtain ⟨D, ⟨es, clock, h1, h2⟩, h3⟩ := h
  exact ⟨es, clock, h1⟩
theorem MapAt.look {w : World} {b n : Nat} {m : ByteArray → Option Value} (h : MapAt w b n m) {t e : TypeId} (ht : Tryz.prog.underlying t = some (.map 9 e)) {z : Value} (hz : (zeroValue e).run Tryz.prog w = .ok z w) {s : ByteArray} (hs : s.size ≤ maxLen) :
    (Instr.lookup t (.map (some b)) (.string s) false).run Tryz.prog w = .ok ((m s).getD z) w := by
  obtain ⟨D, h1, h2, h3⟩ := h
  obtain ⟨v, ps, hr, hv'⟩ := h1.lookup skey ht hz (zd := .held z) (zp := []) rfl (WideMaps.keyOf_string_mk Tryz.underlying9 hs)
  rw [(h3 s).1] at hv'
  rw [hr]
  cases hm : m s with
  | none => rw [hm] at hv'; simp [hv] at hv'; rw [hv'.1]; rfl
  | some x => rw [hm] at hv'; simp [hv] at hv'; rw [hv'.1]; rfl
theorem MapAt.lookOk {w : World} {b n : Nat} {m : ByteArray → Option Value} (h : MapAt w b n m) {t e : TypeId} (ht : Tryz.prog.underlying t = some (.map 9 e)) {z : Value} (hz : (zeroValue e).run Tryz.prog w = .ok z w) {s : ByteArray} (hs : s.size ≤ maxLen) :
    (Instr.lookup t (.map (some b)) (.string s) true).run Tryz.prog w = .ok (.tuple #[(m s).getD z, .bool (m s).isSome]) w := by
  obtain ⟨D, h1, h2, h3⟩ := h
  obtain ⟨v, ps, hr, hv'⟩ := h1.look_ok skey ht hz (zd := .held z) (zp := []) rfl (WideMaps.keyOf_string_mk Tryz.underlying9 hs)
  rw [(h3 s).1] at hv'
  rw [hr, (h3 s).2]
  cases hm : m s with
  | none => rw [hm] at hv'; simp [hv] at hv'; rw [hv'.1]; rfl
  | some x => rw [hm] at hv'; simp [hv] at hv'; rw [hv'.1]; rfl
theorem key_ne {s t : ByteArray} (h : ¬ t = s) : (Lit.string t.data.toList) ≠ Lit.string s.data.toList := by
  intro e
  injection e with e
  apply h
  have : t.data = s.data := by simpa using e
  cases t; cases s; simp_all
theorem MapAt.put {w : World} {b n : Nat} {m : ByteArray → Option Value} (h : MapAt w b n m) {t e : TypeId} (ht : Tryz.prog.underlying t = some (.map 9 e)) (hn : n < maxLen) {s : ByteArray} (hs : s.size ≤ maxLen) (v : Value) :
    ∃ w', (Instr.mapUpdate t (.map (some b)) (.string s) v).run Tryz.prog w = .ok () w' ∧ MapAt w' b (n + 1) (updM m s v) ∧ w.grownBy w' (some b) := by
  obtain ⟨D, h1, h2, h3⟩ := h
  obtain ⟨w', r1, r2, r3⟩ := h1.update skey ht hn (WideMaps.keyOf_string_mk Tryz.underlying9 hs) (show hv v = some (.held v, []) from rfl)
  refine ⟨w', r1, ⟨_, r2, h2.put _ _, fun u => ?_⟩, r3⟩
  by_cases e : u = s
  · subst e
    unfold updM
    rw [if_pos rfl]
    exact ⟨fun z => Maps.atKey_put_same h2 (by exact trivial) _ _, Maps.has_put_same h2 (by exact trivial) _⟩
  · unfold updM
    rw [if_neg e]
    have := key_ne e
    exact ⟨fun z => by rw [Maps.atKey_put_other this]; exact (h3 u).1 z, by rw [Maps.has_put_other this]; exact (h3 u).2⟩
theorem wpList_put {w : World} {ops : Array Oper} {rest : List Oper} {o : Oper} {a : Act} {Q : Exit → Act → World → Prop}
    (hg : o.guard = none) (mo x v : Operand) (t e : TypeId) (hop : o.op = Op.mapUpdate t mo x v) (ht : Tryz.prog.underlying t = some (.map 9 e)) (b n : Nat) (m : ByteArray → Option Value)
    (hm : a.eval mo = .map (some b)) (h : MapAt w b n m) (hn : n < maxLen) (s : ByteArray) (hs : s.size ≤ maxLen) (val : Value) (hx : a.eval x = .string s) (hv' : a.eval v = val)
    (hK : ∀ w', MapAt w' b (n + 1) (updM m s val) → w.grownBy w' (some b) → wpList Tryz.prog ops Q rest (a.put o.dst undef) w') : wpList Tryz.prog ops Q (o :: rest) a w := by
  refine wpList_plain hg fun K' hK' => ?_
  obtain ⟨w', hrun, r1, r2⟩ := h.put ht hn hs val
  unfold Oper.wp
  simp [execOp, hop, hm, hx, hv', hrun, Result.andThen]
  exact hK' _ _ (hK w' r1 r2)
end Go.Proofs.YtbjianmjdadehaaGreatDoor
namespace Go.Proofs.YtbjianmjdadehaaGreatDoor
open Go.RowKit

structure IK where
  cb : Nat
  mf : Nat
  lo : Nat
  up : Nat
  N : Nat
  F : Nd
  fv : Value
  uf : Nat → Value
structure IK.Ok (K : IK) : Prop where
  cl : K.lo ≤ K.cb
  ml : K.lo ≤ K.mf
  cu : K.cb < K.up
  mu : K.mf < K.up
  ne : K.cb ≠ K.mf
  few : K.N ≤ 1048576
  tight : K.up ≤ K.cb + 1 ∨ K.up ≤ K.mf + 1
def IK.fns (K : IK) (n : Nat) : ByteArray → Option Value := fun s => (findTo K.F s n).map fun j => .agg #[.int .i64 (K.F.kids j).kind, .int .i64 (K.F.kids j).num, .string (K.F.kids j).name, K.uf j]
def scV (l : List (ByteArray × Int)) : ByteArray → Option Value := fun s => (l.find? (fun p => decide (p.1 = s))).map fun p => .int .i64 p.2
theorem scV_seek (l : List (ByteArray × Int)) (s : ByteArray) : (scV l s).getD (.int .i64 0) = .int .i64 (seek l s) := by
  unfold scV seek
  cases l.find? (fun p => decide (p.1 = s)) <;> rfl
theorem scV_push (l : List (ByteArray × Int)) (s : ByteArray) (t : Int) : updM (scV l) s (.int .i64 t) = scV ((s, t) :: l) := by
  funext u
  unfold updM scV
  by_cases e : u = s
  · subst e; simp
  · have e' : ¬ s = u := fun h => e h.symm
    simp [e, e']
def Mps (w : World) (up : Nat) : List Nat → Sc → Prop
  | [], [] => True
  | b :: bs, l :: E => MapAt w b l.length (scV l) ∧ up ≤ b ∧ b ∉ bs ∧ Mps w up bs E
  | _, _ => False
theorem Mps.len {w : World} {up : Nat} : ∀ {bs : List Nat} {E : Sc}, Mps w up bs E → bs.length = E.length
  | [], [], _ => rfl
  | b :: bs, l :: E, h => by simp [h.2.2.2.len]
  | [], _ :: _, h => h.elim
  | _ :: _, [], h => h.elim
theorem Mps.same {w w' : World} {up : Nat} : ∀ {bs : List Nat} {E : Sc}, Mps w up bs E → (∀ b ∈ bs, w'.heap[b]? = w.heap[b]?) → Mps w' up bs E
  | [], [], _, _ => trivial
  | b :: bs, l :: E, h, hb => ⟨h.1.same (hb b (by simp)), h.2.1, h.2.2.1, h.2.2.2.same fun k hk => hb k (by simp [hk])⟩
  | [], _ :: _, h, _ => h.elim
  | _ :: _, [], h, _ => h.elim
theorem Mps.mem {w : World} {up : Nat} : ∀ {bs : List Nat} {E : Sc}, Mps w up bs E → ∀ b ∈ bs, up ≤ b ∧ b < w.heap.size ∧ ∃ es clock, w.heap[b]? = some (.map es clock)
  | [], [], _, b, hb => by cases hb
  | b :: bs, l :: E, h, k, hk => by
    rcases List.mem_cons.1 hk with rfl | hk
    · exact ⟨h.2.1, h.1.lt, h.1.isMap⟩
    · exact h.2.2.2.mem k hk
  | [], _ :: _, h, _, _ => h.elim
  | _ :: _, [], h, _, _ => h.elim

def scRow (bs : List Nat) : List Value := (bs.map fun b => Value.map (some b)).reverse
structure IRaw (K : IK) (w : World) (sv tv : Value) (bs : List Nat) (s : CS) (ret loops sels : Int) : Prop where
  blk : ∃ f0 f2 f3 : Value, w.heap[K.cb]? = some (.cells #[.map (some K.mf), sv, tv, f0, .int .i64 ret, f2, f3, .int .i64 loops, .int .i64 sels] 74 (0, 0))
  sc : w.ownsRow K.up 135 1 sv s.1.length (scRow bs)
  ty : w.ownsRow K.up 3 1 tv s.2.length (s.2.map (Value.int .i64))
  maps : Mps w K.up bs s.1
def Own (sv tv : Value) (bs : List Nat) (k : Nat) : Prop := sv.ownBlock = some k ∨ tv.ownBlock = some k ∨ k ∈ bs
structure ILen (K : IK) (s : CS) : Prop where
  vars : varLen s.1 ≤ s.2.length
  deep : s.1.length ≤ s.2.length + 1
  few : s.2.length ≤ K.N
  full : ∀ l ∈ s.1, ∀ p ∈ l, p.2 ≠ 0
def IK.S (K : IK) (O : Nat → Prop) : Nat → Prop := fun k => k = K.cb ∨ O k
structure IS (K : IK) (w0 : World) (O : Nat → Prop) (s : CS) (ret loops sels : Int) (w : World) : Prop where
  ok : K.Ok
  is : ∃ sv tv bs, IRaw K w sv tv bs s ret loops sels ∧ ∀ k, Own sv tv bs k → O k ∨ w0.heap.size ≤ k
  fn : MapAt w K.mf K.F.len (K.fns K.F.len)
  len : ILen K s
  base : K.mf < w0.heap.size ∧ ¬ O K.mf
  kept : Kept (K.S O) w0 w

theorem IRaw.lt {K : IK} {w : World} {sv tv : Value} {bs : List Nat} {s : CS} {ret loops sels : Int} (h : IRaw K w sv tv bs s ret loops sels) : K.cb < w.heap.size := by
  obtain ⟨f0, f2, f3, h1⟩ := h.blk; exact (Array.getElem?_eq_some_iff.1 h1).1
theorem IRaw.own {K : IK} {w : World} {sv tv : Value} {bs : List Nat} {s : CS} {ret loops sels : Int} (h : IRaw K w sv tv bs s ret loops sels) : ∀ k, Own sv tv bs k → K.up ≤ k ∧ k < w.heap.size := by
  rintro k (h1 | h1 | h1)
  · exact h.sc.lt k h1
  · exact h.ty.lt k h1
  · exact ⟨(h.maps.mem k h1).1, (h.maps.mem k h1).2.1⟩
theorem IRaw.calm {K : IK} {w w' : World} {sv tv : Value} {bs : List Nat} {s : CS} {ret loops sels : Int} (h : IRaw K w sv tv bs s ret loops sels) (hb : Below w.heap.size w w') : IRaw K w' sv tv bs s ret loops sels := by
  obtain ⟨f0, f2, f3, h1⟩ := h.blk
  exact ⟨⟨f0, f2, f3, (hb.block _ h.lt).trans h1⟩, own_calm h.sc fun k hk => hb.block k (h.sc.lt k hk).2, own_calm h.ty fun k hk => hb.block k (h.ty.lt k hk).2, h.maps.same fun b hb' => hb.block b (h.maps.mem b hb').2.1⟩
theorem IS.lt {K : IK} {w0 : World} {O : Nat → Prop} {s : CS} {ret loops sels : Int} {w : World} (h : IS K w0 O s ret loops sels w) : K.cb < w.heap.size ∧ K.mf < w.heap.size := by
  obtain ⟨sv, tv, bs, h1, _⟩ := h.is; exact ⟨h1.lt, h.fn.lt⟩
theorem IS.calm {K : IK} {w0 : World} {O : Nat → Prop} {s : CS} {ret loops sels : Int} {w w' : World} (h : IS K w0 O s ret loops sels w) (hb : Below w.heap.size w w') : IS K w0 O s ret loops sels w' := by
  obtain ⟨sv, tv, bs, h1, h2⟩ := h.is
  exact ⟨h.ok, ⟨sv, tv, bs, h1.calm hb, h2⟩, h.fn.same (hb.block _ h.fn.lt), h.len, h.base, h.kept.trans (kept_of hb (K.S O)) (fun _ _ h => h)⟩
theorem IS.alloc {K : IK} {w0 : World} {O : Nat → Prop} {s : CS} {ret loops sels : Int} {w : World} (h : IS K w0 O s ret loops sels w) (o : Obj) : IS K w0 O s ret loops sels (w.alloc o) :=
  h.calm ((Below.refl _ _).alloc (Nat.le_refl _) _)
theorem IS.drew {K : IK} {w0 : World} {O : Nat → Prop} {s : CS} {ret loops sels : Int} {w : World} (h : IS K w0 O s ret loops sels w) : IS K w0 O s ret loops sels w.drew :=
  h.calm ⟨rfl, rfl, rfl, Nat.le_refl _, fun _ _ => rfl⟩
theorem IS.restart {K : IK} {w0 : World} {O : Nat → Prop} {s : CS} {ret loops sels : Int} {w : World} (h : IS K w0 O s ret loops sels w) :
    ∃ O1 : Nat → Prop, IS K w O1 s ret loops sels w ∧ (∀ k, O1 k → K.up ≤ k ∧ k < w.heap.size) ∧ ∀ s' r' l' o' w', IS K w O1 s' r' l' o' w' → IS K w0 O s' r' l' o' w' := by
  obtain ⟨sv, tv, bs, h1, h2⟩ := h.is
  have hs0 := h.kept.size
  have hm := h.ok.mu
  refine ⟨Own sv tv bs, ⟨h.ok, ⟨sv, tv, bs, h1, fun k hk => .inl hk⟩, h.fn, h.len, ⟨h.fn.lt, fun hk => by have := (h1.own _ hk).1; omega⟩, Kept.refl _ _⟩, h1.own, ?_⟩
  intro s' r' l' o' w' h'
  obtain ⟨sv', tv', bs', k1, k2⟩ := h'.is
  refine ⟨h.ok, ⟨sv', tv', bs', k1, fun k hk => ?_⟩, h'.fn, h'.len, h.base, h.kept.trans h'.kept ?_⟩
  · rcases k2 k hk with e | e
    · exact h2 k e
    · exact .inr (by omega)
  · rintro i hi (e | e)
    · exact .inl e
    · rcases h2 i e with e' | e'
      · exact .inr e'
      · omega
theorem IS.keep {K : IK} {w0 : World} {O : Nat → Prop} {s : CS} {ret loops sels : Int} {w : World} (h : IS K w0 O s ret loops sels w) {k : Nat} (hk : k < w0.heap.size) (h1 : k ≠ K.cb) (h2 : ¬ O k) : w.heap[k]? = w0.heap[k]? :=
  h.kept.block k hk (by rintro (e | e) <;> contradiction)
theorem IS.below {K : IK} {w0 : World} {O : Nat → Prop} {s : CS} {ret loops sels : Int} {w : World} (h : IS K w0 O s ret loops sels w) (h0 : K.lo ≤ w0.heap.size) (ho : ∀ k, O k → K.up ≤ k) : Below K.lo w0 w :=
  h.kept.below h0 (by rintro k (e | e); have := h.ok.cl; omega; have := h.ok.cl; have := h.ok.cu; have := ho k e; omega)
theorem IS.boxed {K : IK} {w0 : World} {O : Nat → Prop} {s : CS} {ret loops sels : Int} {w : World} (h : IS K w0 O s ret loops sels w) (o : Obj) : ∃ O1 : Nat → Prop, IS K (w.alloc o) O1 s ret loops sels (w.alloc o) ∧ (∀ s' r' l' o' W, IS K (w.alloc o) O1 s' r' l' o' W → IS K w0 O s' r' l' o' W) ∧
    (∀ s' r' l' o' W, IS K (w.alloc o) O1 s' r' l' o' W → W.heap[w.heap.size]? = some o) ∧ ∀ s' r' l' o' W, IS K (w.alloc o) O1 s' r' l' o' W → Below K.lo w W := by
  obtain ⟨sv, tv, bs, h1, h2⟩ := h.is
  have hlt := h.lt
  have hb : Below w.heap.size w (w.alloc o) := (Below.refl _ _).alloc (Nat.le_refl _) _
  have hm := h.ok.mu
  have hs0 := h.kept.size
  have hcl := h.ok.cl
  have g1 : IS K (w.alloc o) (Own sv tv bs) s ret loops sels (w.alloc o) := ⟨h.ok, ⟨sv, tv, bs, h1.calm hb, fun k hk => .inl hk⟩, h.fn.same (hb.block _ h.fn.lt), h.len, ⟨by simp; omega, fun hk => by have := (h1.own _ hk).1; omega⟩, Kept.refl _ _⟩
  refine ⟨Own sv tv bs, g1, ?_, ?_, ?_⟩
  · intro s' r' l' o' W h'
    obtain ⟨sv', tv', bs', k1, k2⟩ := h'.is
    have hka : Kept (K.S O) w0 (w.alloc o) := h.kept.trans (kept_of hb (K.S O)) (fun _ _ h => h)
    refine ⟨h.ok, ⟨sv', tv', bs', k1, fun k hk => ?_⟩, h'.fn, h'.len, h.base, hka.trans h'.kept ?_⟩
    · rcases k2 k hk with e | e
      · exact h2 k e
      · refine .inr ?_
        simp at e; omega
    · rintro i hi (e | e)
      · exact .inl e
      · rcases h2 i e with e' | e'
        · exact .inr e'
        · omega
  · intro s' r' l' o' W h'
    rw [h'.keep (k := w.heap.size) (by simp) (by omega) (fun e => by have := (h1.own _ e).2; omega)]
    exact heap_alloc_new w o
  · intro s' r' l' o' W h'
    exact (hb.mono (by omega)).trans (h'.below (by simp; omega) fun k hk => (h1.own k hk).1)
theorem IRaw.cells {K : IK} {w : World} {sv tv : Value} {bs : List Nat} {s : CS} {ret loops sels : Int} (h : IRaw K w sv tv bs s ret loops sels) :
    w.cell? ⟨K.cb, 0, none⟩ = some (.map (some K.mf)) ∧ w.cell? ⟨K.cb, 1, none⟩ = some sv ∧ w.cell? ⟨K.cb, 2, none⟩ = some tv ∧ w.cell? ⟨K.cb, 4, none⟩ = some (.int .i64 ret) ∧ w.cell? ⟨K.cb, 7, none⟩ = some (.int .i64 loops) ∧ w.cell? ⟨K.cb, 8, none⟩ = some (.int .i64 sels) := by
  obtain ⟨f0, f2, f3, h1⟩ := h.blk
  refine ⟨?_, ?_, ?_, ?_, ?_, ?_⟩ <;> simp [World.cell?, h1]
theorem IRaw.free {K : IK} {w : World} {sv tv : Value} {bs : List Nat} {s : CS} {ret loops sels : Int} (h : IRaw K w sv tv bs s ret loops sels) (i : Nat) : w.frozen? ⟨K.cb, i, none⟩ = false := by
  obtain ⟨f0, f2, f3, h1⟩ := h.blk
  exact frozen_of_row w K.cb i _ _ h1
theorem own_shape {w : World} {base n : Nat} {e : TypeId} {size : Nat} {v : Value} {xs : List Value} (h : w.ownsRow base e size v n xs) : ∃ a c, v = .slice a n c ∧ n ≤ c ∧ c ≤ 9223372036854775807 := by
  rcases h.2 with ⟨rfl, e⟩ | ⟨g, cap, cur, rfl, _, _, h4, h5, _⟩
  · exact ⟨none, 0, by rw [e], by rw [e]; simp, by omega⟩
  · exact ⟨_, _, rfl, h4, by unfold maxLen at h5; omega⟩
end Go.Proofs.YtbjianmjdadehaaGreatDoor
namespace Go.Proofs.YtbjianmjdadehaaGreatDoor
open Go.RowKit

theorem own_cells {w : World} {base n : Nat} {e : TypeId} {size : Nat} {v : Value} {xs : List Value} (h : w.ownsRow base e size v n xs) {k : Nat} (hk : v.ownBlock = some k) : ∃ cur, w.heap[k]? = some (.cells cur e (0, 0)) := by
  rcases h.2 with ⟨rfl, e⟩ | ⟨g, cap, cur, rfl, _, h3, _⟩
  · cases hk
  · injection hk with hk; subst hk; exact ⟨_, h3⟩
theorem IRaw.apart {K : IK} {w : World} {sv tv : Value} {bs : List Nat} {s : CS} {ret loops sels : Int} (h : IRaw K w sv tv bs s ret loops sels) {k : Nat} (h1 : sv.ownBlock = some k) : some k ≠ tv.ownBlock := by
  intro h2
  obtain ⟨c1, e1⟩ := own_cells h.sc h1
  obtain ⟨c2, e2⟩ := own_cells h.ty h2.symm
  rw [e1] at e2
  injection e2 with e2
  injection e2 with _ e2
  revert e2; decide
theorem map_apart {w : World} {base n : Nat} {e : TypeId} {size : Nat} {v : Value} {xs : List Value} (h : w.ownsRow base e size v n xs) {b : Nat} (hm : ∃ es clock, w.heap[b]? = some (.map es clock)) : some b ≠ v.ownBlock := by
  intro h2
  obtain ⟨c2, e2⟩ := own_cells h h2.symm
  obtain ⟨es, clock, e1⟩ := hm
  rw [e1] at e2
  cases e2
theorem IRaw.putT {K : IK} (hK : K.Ok) {w w1 : World} {sv tv tv' : Value} {bs : List Nat} {s : CS} {X : List Int} {ret loops sels : Int} (h : IRaw K w sv tv bs s ret loops sels) (hg : w.grownBy w1 tv.ownBlock)
    (ho : w1.ownsRow K.up 3 1 tv' X.length (X.map (Value.int .i64))) : IRaw K (w1.setCell ⟨K.cb, 2, none⟩ tv') sv tv' bs (s.1, X) ret loops sels := by
  obtain ⟨f0, f2, f3, h1⟩ := h.blk
  have hcu := hK.cu
  have hc : w1.heap[K.cb]? = w.heap[K.cb]? := hg.block _ h.lt (fun e => by have := (h.ty.lt _ e.symm).1; omega)
  refine ⟨⟨f0, f2, f3, ?_⟩, ?_, ownsRow_setCell_below ho (show K.cb < K.up from hcu) _, ?_⟩
  · rw [heap_setCell_same w1 K.cb 2 _ _ tv' (hc.trans h1)]; rfl
  · refine ownsRow_setCell_below (own_calm h.sc fun k hk => hg.block k (h.sc.lt k hk).2 (h.apart hk)) (show K.cb < K.up from hcu) _
  · refine h.maps.same fun b hb => ?_
    have hm := h.maps.mem b hb
    rw [Below.heap_setCell w1 ⟨K.cb, 2, none⟩ tv' b (fun e => by have e' : b = K.cb := e; omega)]
    exact hg.block b hm.2.1 (map_apart h.ty hm.2.2)
theorem IRaw.putS {K : IK} (hK : K.Ok) {w w1 : World} {sv sv' tv : Value} {bs bs' : List Nat} {s : CS} {E : Sc} {ret loops sels : Int} (h : IRaw K w sv tv bs s ret loops sels) (hg : w.grownBy w1 sv.ownBlock)
    (ho : w1.ownsRow K.up 135 1 sv' E.length (scRow bs')) (hm : Mps w1 K.up bs' E) : IRaw K (w1.setCell ⟨K.cb, 1, none⟩ sv') sv' tv bs' (E, s.2) ret loops sels := by
  obtain ⟨f0, f2, f3, h1⟩ := h.blk
  have hcu := hK.cu
  have hc : w1.heap[K.cb]? = w.heap[K.cb]? := hg.block _ h.lt (fun e => by have := (h.sc.lt _ e.symm).1; omega)
  refine ⟨⟨f0, f2, f3, ?_⟩, ownsRow_setCell_below ho (show K.cb < K.up from hcu) _, ?_, ?_⟩
  · rw [heap_setCell_same w1 K.cb 1 _ _ sv' (hc.trans h1)]; rfl
  · refine ownsRow_setCell_below (own_calm h.ty fun k hk => hg.block k (h.ty.lt k hk).2 fun e => h.apart e.symm hk.symm) (show K.cb < K.up from hcu) _
  · refine hm.same fun b hb => Below.heap_setCell w1 ⟨K.cb, 1, none⟩ sv' b fun e => ?_
    have := (hm.mem b hb).1
    have e' : b = K.cb := e
    omega
theorem IS.step {K : IK} {w0 : World} {O : Nat → Prop} {s s' : CS} {ret loops sels ret' loops' sels' : Int} {w w' : World} (h : IS K w0 O s ret loops sels w) {sv tv sv' tv' : Value} {bs bs' : List Nat}
    (h1 : IRaw K w sv tv bs s ret loops sels) (ho : ∀ k, Own sv tv bs k → O k ∨ w0.heap.size ≤ k) (h2 : IRaw K w' sv' tv' bs' s' ret' loops' sels') (hn : ∀ k, Own sv' tv' bs' k → Own sv tv bs k ∨ w.heap.size ≤ k) (hl : ILen K s') (hk : Kept (fun k => k = K.cb ∨ Own sv tv bs k) w w') : IS K w0 O s' ret' loops' sels' w' := by
  have hs0 := h.kept.size
  have hm := h.ok.mu
  refine ⟨h.ok, ⟨sv', tv', bs', h2, fun k hk' => ?_⟩, h.fn.same (hk.block _ h.fn.lt ?_), hl, h.base, h.kept.trans hk ?_⟩
  · rcases hn k hk' with e | e
    · exact ho k e
    · exact .inr (by omega)
  · rintro (e | e)
    · exact h.ok.ne e.symm
    · have := (h1.own _ e).1; omega
  · rintro i hi (e | e)
    · exact .inl e
    · rcases ho i e with e' | e'
      · exact .inr e'
      · omega

set_option maxHeartbeats 2000000 in
set_option maxRecDepth 100000 in
theorem next_any {K : IK} {w0 : World} {O : Nat → Prop} {s : CS} {ret loops sels : Int} {w : World} (h : IS K w0 O s ret loops sels w) :
    Calls Tryz.prog 122 #[.pointer (some ⟨K.cb, 0, none⟩)] w fun e w' => e = .returned (.int .i64 s.2.length) ∧ w' = w := by
  obtain ⟨sv, tv, bs, h1, h2⟩ := h.is
  obtain ⟨a, c, rfl, hc1, hc2⟩ := own_shape h1.ty
  obtain ⟨k0, k1, k2, k4, k7, k8⟩ := h1.cells
  clear h h1 h2
  go_enter Tryz.func122, Tryz.ntmps122
  go_wp2
  go_ret
  exact ⟨rfl, rfl⟩

theorem ILen.take {K : IK} {s : CS} (h : ILen K s) (hn : s.2.length + 1 ≤ K.N) : ILen K (take0 s) := by
  have := take0_len s
  exact ⟨by rw [this]; exact Nat.le_succ_of_le h.vars, by rw [this]; exact Nat.le_succ_of_le h.deep, by rw [this]; exact hn, h.full⟩
set_option maxHeartbeats 2000000 in
set_option maxRecDepth 100000 in
theorem take_any {K : IK} {w0 : World} {O : Nat → Prop} {s : CS} {ret loops sels : Int} {w : World} (h : IS K w0 O s ret loops sels w) (hn : s.2.length + 1 ≤ K.N) :
    Calls Tryz.prog 60 #[.pointer (some ⟨K.cb, 0, none⟩)] w fun e w' => e = .returned (.int .i64 s.2.length) ∧ IS K w0 O (take0 s) ret loops sels w' := by
  obtain ⟨sv, tv, bs, h1, h2⟩ := h.is
  obtain ⟨i0, hi0, hz0, hz1, hz2⟩ := info_parts infoI
  have hfew := h.ok.few
  have hup : K.up ≤ w.heap.size := by have := h.lt; have := h.ok.tight; omega
  obtain ⟨k0, k1, k2, k4, k7, k8⟩ := h1.cells
  have f2 := h1.free 2
  have hlt := h.lt
  have HR := hid_mk h1
  have HO := hid_mk h2
  have HS := hid_mk h
  have HTY := hid_mk h1.ty
  clear h h1 h2
  go_enter Tryz.func60, Tryz.ntmps60
  go_wp2_with (at_builtin; refine wpList_append_freshG _ rfl _ _ 34 rfl K.up 3 i0 (.int .i64 0) 1 8 Tryz.underlying34 hi0 hz0 hz1 hz2 rfl (by decide) _ s.2.length _ rfl (HTY.out.alloc _) ⟨w.heap.size, 0, none⟩ 1 1 [.int .i64 0] rfl rfl (by intro i u hu; rcases i with _ | i <;> simp_all [Addr.add]) (by intro u hu; simp at hu; subst hu; rfl) (by unfold maxLen; omega) (by omega) (by simp; omega) ?_; intro v' w3 hown' hgrow hnew hshape; obtain ⟨av, cv, rfl⟩ := hshape.out; have hgr := (World.grownBy_alloc w (.cells #[.int .i64 0] 3) tv.ownBlock).trans hgrow.out; have hcb : w3.heap[K.cb]? = w.heap[K.cb]? := hgr.block _ hlt.1 (fun e => by have := (HTY.out.lt _ e.symm).1; have := HS.out.ok.cu; omega); have f2' : w3.frozen? ⟨K.cb, 2, none⟩ = false := (by rw [World.frozen?_of_block (a := ⟨K.cb, 2, none⟩) hcb]; exact f2); have k2' : w3.cell? ⟨K.cb, 2, none⟩ = some tv := (by rw [World.cell?_of_block (a := ⟨K.cb, 2, none⟩) hcb]; exact k2); have HGR := hid_mk hgr; clear hgr hcb)
  go_ret
  refine ⟨rfl, ?_⟩
  have hr2 := HR.out.putT HS.out.ok (tv' := .slice av (s.2.length + 1) cv) (X := s.2 ++ [0]) HGR.out (by have := hown'.out; simpa using this)
  refine HS.out.step HR.out HO.out hr2 ?_ (HS.out.len.take hn) ?_
  · rintro k (e | e | e)
    · exact .inl (.inl e)
    · rcases hnew.out with e1 | ⟨k1, e1, e2⟩
      · exact .inl (.inr (.inl (e1 ▸ e)))
      · rw [e1] at e; injection e with e; subst e; refine .inr ?_; simp at e2; omega
    · exact .inl (.inr (.inr e))
  · exact (Kept.grown HGR.out (fun k hk => .inr (.inr (.inl hk)))).trans (Kept.setCell (S := fun k => k = K.cb ∨ Own sv tv bs k) ⟨K.cb, 2, none⟩ _ (.inl rfl)) (fun _ _ h => h)

theorem infoM : (Tryz.prog.info? 135).map (fun i => (i.zero, i.size, i.bytes)) = some (some (.map none), 1, 8) := by kernel_rfl
theorem scRow_cons (b : Nat) (bs : List Nat) : scRow (b :: bs) = scRow bs ++ [.map (some b)] := by simp [scRow]
theorem ILen.enter {K : IK} {s : CS} (h : ILen K s) (hd : s.1.length ≤ s.2.length) : ILen K ([] :: s.1, s.2) := by
  refine ⟨?_, ?_, h.few, ?_⟩
  · have e : varLen ([] :: s.1) = varLen s.1 := by simp [varLen]
    show varLen ([] :: s.1) ≤ _; rw [e]; exact h.vars
  · show ([] :: s.1).length ≤ _; simp; omega
  · intro l hl p hp
    rcases List.mem_cons.1 hl with rfl | hl
    · cases hp
    · exact h.full l hl p hp
set_option maxHeartbeats 2000000 in
set_option maxRecDepth 100000 in
theorem enter_any {K : IK} {w0 : World} {O : Nat → Prop} {s : CS} {ret loops sels : Int} {w : World} (h : IS K w0 O s ret loops sels w) (hd : s.1.length ≤ s.2.length) :
    Calls Tryz.prog 79 #[.pointer (some ⟨K.cb, 0, none⟩)] w fun e w' => e = .returned (.tuple #[]) ∧ IS K w0 O ([] :: s.1, s.2) ret loops sels w' := by
  obtain ⟨sv, tv, bs, h1, h2⟩ := h.is
  obtain ⟨i0, hi0, hz0, hz1, hz2⟩ := info_parts infoM
  have hfew := h.ok.few
  have hlen := h.len
  have hup : K.up ≤ w.heap.size := by have := h.lt; have := h.ok.tight; omega
  obtain ⟨k0, k1, k2, k4, k7, k8⟩ := h1.cells
  have f1 := h1.free 1
  have hlt := h.lt
  have hmm := @run_makeMap Tryz.prog
  have HR := hid_mk h1
  have HO := hid_mk h2
  have HS := hid_mk h
  have HSC := hid_mk h1.sc
  have hsl : s.1.length ≤ 1048577 := by have := hlen.few; omega
  have HLE := hid_mk hlen
  clear h h1 h2 hlen
  go_enter Tryz.func79, Tryz.ntmps79
  go_wp2_with (at_builtin; refine wpList_append_freshG _ rfl _ _ 72 rfl K.up 135 i0 (.map none) 1 8 Tryz.underlying72 hi0 hz0 hz1 hz2 rfl (by decide) _ s.1.length _ rfl ((HSC.out.alloc _).alloc _) ⟨w.heap.size + 1, 0, none⟩ 1 1 [.map (some w.heap.size)] rfl rfl (by intro i u hu; rcases i with _ | i <;> simp_all [Addr.add]) (by intro u hu; simp at hu; subst hu; rfl) (by unfold maxLen; omega) (by omega) (by simp; omega) ?_; intro v' w3 hown' hgrow hnew hshape; obtain ⟨av, cv, rfl⟩ := hshape.out; have hgr := ((World.grownBy_alloc w (.map #[] 0) sv.ownBlock).trans (World.grownBy_alloc _ (.cells #[.map (some w.heap.size)] 135) sv.ownBlock)).trans hgrow.out; have hcb : w3.heap[K.cb]? = w.heap[K.cb]? := hgr.block _ hlt.1 (fun e => by have := (HSC.out.lt _ e.symm).1; have := HS.out.ok.cu; omega); have f1' : w3.frozen? ⟨K.cb, 1, none⟩ = false := (by rw [World.frozen?_of_block (a := ⟨K.cb, 1, none⟩) hcb]; exact f1); have k1' : w3.cell? ⟨K.cb, 1, none⟩ = some sv := (by rw [World.cell?_of_block (a := ⟨K.cb, 1, none⟩) hcb]; exact k1); have HGR := hid_mk hgr; clear hgr hcb)
  go_end0
  refine ⟨rfl, ?_⟩
  have hnb : ∀ k, sv.ownBlock = some k → k < w.heap.size := fun k hk => (HSC.out.lt k hk).2
  have hmap : MapAt w3 w.heap.size 0 (fun _ => none) := by
    refine ((mapAt_made w).same (Below.heap_alloc _ _ _ (by simp))).same (w := (w.alloc (.map #[] 0)).alloc (.cells #[.map (some w.heap.size)] 135)) (hgrow.out.block _ (by simp; omega) (fun e => ?_))
    have := hnb _ e.symm
    omega
  have hmps : Mps w3 K.up (w.heap.size :: bs) ([] :: s.1) := by
    refine ⟨hmap, hup, fun hb => by have := (HR.out.maps.mem _ hb).2.1; omega, HR.out.maps.same fun b hb => HGR.out.block b (HR.out.maps.mem b hb).2.1 (map_apart HSC.out (HR.out.maps.mem b hb).2.2)⟩
  have hr2 := HR.out.putS HS.out.ok (sv' := .slice av (s.1.length + 1) cv) (E := [] :: s.1) (bs' := w.heap.size :: bs) HGR.out (by have := hown'.out; rw [scRow_cons]; simpa using this) hmps
  refine HS.out.step HR.out HO.out hr2 ?_ (HLE.out.enter hd) ?_
  · rintro k (e | e | e)
    · rcases hnew.out with e1 | ⟨k1, e1, e2⟩
      · exact .inl (.inl (e1 ▸ e))
      · rw [e1] at e; injection e with e; subst e; refine .inr ?_; simp at e2; omega
    · exact .inl (.inr (.inl e))
    · rcases List.mem_cons.1 e with rfl | e
      · exact .inr (Nat.le_refl _)
      · exact .inl (.inr (.inr e))
  · exact (Kept.grown HGR.out (fun k hk => .inr (.inl hk))).trans (Kept.setCell (S := fun k => k = K.cb ∨ Own sv tv bs k) ⟨K.cb, 1, none⟩ _ (.inl rfl)) (fun _ _ h => h)
end Go.Proofs.YtbjianmjdadehaaGreatDoor
namespace Go.Proofs.YtbjianmjdadehaaGreatDoor
open Go.RowKit

theorem ILen.leave {K : IK} {l : List (ByteArray × Int)} {E : Sc} {X : List Int} (h : ILen K (l :: E, X)) : ILen K (E, X) := by
  refine ⟨?_, ?_, h.few, fun l' hl => h.full l' (List.mem_cons_of_mem _ hl)⟩
  · have e : varLen (l :: E) = l.length + varLen E := by simp [varLen]
    have : varLen (l :: E) ≤ X.length := h.vars
    show varLen E ≤ X.length; omega
  · have : (l :: E).length ≤ X.length + 1 := h.deep
    show E.length ≤ X.length + 1; simp at this; omega
theorem scRow_len (bs : List Nat) : (scRow bs).length = bs.length := by simp [scRow]
set_option maxHeartbeats 2000000 in
set_option maxRecDepth 100000 in
theorem leaveI_any {K : IK} {w0 : World} {O : Nat → Prop} {s : CS} {ret loops sels : Int} {w : World} (h : IS K w0 O s ret loops sels w) (hs : s.1 ≠ []) :
    Calls Tryz.prog 82 #[.pointer (some ⟨K.cb, 0, none⟩)] w fun e w' => e = .returned (.tuple #[]) ∧ IS K w0 O (s.1.tail, s.2) ret loops sels w' := by
  obtain ⟨E0, X⟩ := s
  cases E0 with
  | nil => exact absurd rfl hs
  | cons l E =>
  obtain ⟨sv, tv, bs0, h1, h2⟩ := h.is
  cases bs0 with
  | nil => exact h1.maps.elim
  | cons b bs =>
  have hml := h1.maps.2.2.2.len
  obtain ⟨a, c, rfl, hc1, hc2⟩ := own_shape h1.sc
  obtain ⟨k0, k1, k2, k4, k7, k8⟩ := h1.cells
  have f1 := h1.free 1
  have hlen := h.len.leave
  have hlt := h.lt
  have HR := hid_mk h1
  have HO := hid_mk h2
  have HS := hid_mk h
  have hmix : Tryz.prog.follows Departure.mixedOrders = true := by kernel_rfl
  have hl1 : (((l :: E).length : Nat) : Int) - 1 = E.length := by simp
  have hl2 : (l :: E).length = E.length + 1 := rfl
  have hfew : E.length ≤ 1048577 := by have := h.ok.few; have := hlen.few; have := hlen.deep; dsimp only at *; omega
  rw [hl2] at k1 hc1
  clear h h1 h2 hl1
  go_enter Tryz.func82, Tryz.ntmps82
  have hwr : IntKind.i64.wrap (E.length : Int) = E.length := by simp [IntKind.wrap, IntKind.bits, IntKind.signed]; omega
  have hcI : (E.length : Int) ≤ (c : Int) := by omega
  have hcN : E.length ≤ c := by omega
  go_wp2
  go_still_tail 14, hmix
  go_wp2
  go_end0
  refine ⟨rfl, ?_⟩
  have hr2 := HR.out.putS (w1 := w) HS.out.ok (sv' := .slice a E.length c) (E := E) (bs' := bs) ⟨rfl, rfl, rfl, Nat.le_refl _, fun _ _ _ => rfl⟩ (by
    have := own_cut HR.out.sc (k := E.length) (by show E.length ≤ (l :: E).length; simp)
    rw [scRow_cons, Nat.mul_one, ← hml, ← scRow_len bs, List.take_left, scRow_len, hml] at this
    exact this) HR.out.maps.2.2.2
  refine IS.drew (HS.out.step HR.out HO.out hr2 ?_ hlen ?_)
  · rintro k (e | e | e)
    · exact .inl (.inl (by cases a <;> exact e))
    · exact .inl (.inr (.inl e))
    · exact .inl (.inr (.inr (List.mem_cons_of_mem _ e)))
  · exact Kept.setCell (S := fun k => k = K.cb ∨ Own (.slice a (l :: E).length c) tv (b :: bs) k) ⟨K.cb, 1, none⟩ _ (.inl rfl)

def fltV (p : Int × Nat) : Value := .iface 54 (.agg #[.int .i64 p.1, .int .i64 (p.2 : Int)])
def Ans {α : Type} (K : IK) (w : World) (M : CR α) (good : α → Ending → World → Prop) (e : Ending) (w' : World) : Prop :=
  match M with
  | .ok a => good a e w'
  | .error p => e = .panicked [{ v := fltV p, recovered := false }] ∧ Below K.lo w w'
theorem ans_ok {α : Type} {K : IK} {w : World} {M : CR α} {good : α → Ending → World → Prop} {a : α} (h : M = .ok a) {e : Ending} {w' : World} : Ans K w M good e w' = good a e w' := by subst h; rfl
theorem ans_err {α : Type} {K : IK} {w : World} {M : CR α} {good : α → Ending → World → Prop} {p : Int × Nat} (h : M = .error p) {e : Ending} {w' : World} : Ans K w M good e w' = (e = .panicked [{ v := fltV p, recovered := false }] ∧ Below K.lo w w') := by subst h; rfl

theorem seek_top {l : List (ByteArray × Int)} (hf : ∀ p ∈ l, p.2 ≠ 0) (s : ByteArray) : (l.any (fun p => decide (p.1 = s)) = true) ↔ seek l s ≠ 0 := by
  unfold seek
  cases hx : l.find? (fun p => decide (p.1 = s)) with
  | none =>
    rw [List.find?_eq_none] at hx
    simp only [ne_eq, not_true_eq_false, iff_false, Bool.not_eq_true]
    rw [List.any_eq_false]
    exact hx
  | some p =>
    have h1 := List.find?_some hx
    have h2 := List.mem_of_find?_eq_some hx
    exact ⟨fun _ => hf p h2, fun _ => List.any_eq_true.2 ⟨p, h2, h1⟩⟩
theorem zeroI (w : World) : (zeroValue 3).run Tryz.prog w = .ok (.int .i64 0) w := by kernel_rfl
theorem ILen.push {K : IK} {l : List (ByteArray × Int)} {E : Sc} {X : List Int} (h : ILen K (l :: E, X)) (s : ByteArray) {t : Int} (ht : t ≠ 0) (hv : varLen (l :: E) + 1 ≤ X.length) : ILen K (((s, t) :: l) :: E, X) := by
  refine ⟨?_, ?_, h.few, ?_⟩
  · have e : varLen (((s, t) :: l) :: E) = varLen (l :: E) + 1 := by simp [varLen]
    show varLen (((s, t) :: l) :: E) ≤ X.length; omega
  · exact h.deep
  · intro l' hl p hp
    rcases List.mem_cons.1 hl with rfl | hl
    · rcases List.mem_cons.1 hp with rfl | hp
      · exact ht
      · exact h.full l (by simp) p hp
    · exact h.full l' (List.mem_cons_of_mem _ hl) p hp
set_option maxHeartbeats 2000000 in
set_option maxRecDepth 100000 in
theorem define_any {K : IK} {w0 : World} {O : Nat → Prop} {s : CS} {ret loops sels : Int} {w : World} (h : IS K w0 O s ret loops sels w) (t : ByteArray) (ty : Int) (p : Nat) (hs : s.1 ≠ []) (hty : ty ≠ 0) (ht : t.size ≤ maxLen) (hv : varLen s.1 + 1 ≤ s.2.length) :
    Calls Tryz.prog 80 #[.pointer (some ⟨K.cb, 0, none⟩), .string t, .int .i64 ty, .int .i64 p] w (Ans K w (declC s t ty p) fun s' e w' => e = .returned (.tuple #[]) ∧ IS K w0 O s' ret loops sels w') := by
  obtain ⟨E0, X⟩ := s
  cases E0 with
  | nil => exact absurd rfl hs
  | cons l E =>
  obtain ⟨sv, tv, bs0, h1, h2⟩ := h.is
  cases bs0 with
  | nil => exact h1.maps.elim
  | cons b bs =>
  have hml := h1.maps.2.2.2.len
  obtain ⟨k0, k1, k2, k4, k7, k8⟩ := h1.cells
  have hlt := h.lt
  have hnc : (l :: E).length = E.length + 1 := rfl
  have hrow := h1.sc
  -- the row's last cell
  obtain ⟨a, c, hsv, hc1, hc2⟩ := own_shape h1.sc
  obtain ⟨g, rfl⟩ : ∃ g, sv = .slice (some ⟨g, 0, none⟩) (E.length + 1) c := by
    rcases h1.sc.2 with ⟨e1, e2⟩ | ⟨g, cap, cur, e1, _⟩
    · simp at e2
    · rw [hsv] at e1; injection e1 with e1 e2 e3; subst e1; exact ⟨g, hsv⟩
  have hcell : w.cell? ⟨g, E.length, none⟩ = some (.map (some b)) := by
    have := h1.sc.cells (g := g) rfl E.length (.map (some b)) (by rw [scRow_cons, List.getElem?_append_right (by rw [scRow_len, hml]; exact Nat.le_refl _), scRow_len, hml]; simp)
    rw [add_at] at this
    exact this
  have hfull : ∀ q ∈ l, q.2 ≠ 0 := h.len.full l (by simp)
  have hst := seek_top hfull t
  have hlk := h1.maps.1.look (t := 135) Tryz.underlying135 (zeroI w) ht
  rw [scV_seek] at hlk
  have HR := hid_mk h1
  have HO := hid_mk h2
  have HS := hid_mk h
  have HLK : Hid (∀ n, (Instr.lookup 135 (.map (some b)) (.string t) false).run Tryz.prog (w.drewN n) = .ok (.int .i64 (seek l t)) (w.drewN n)) := fun n => by
    have := (h1.maps.1.same (w' := w.drewN n) rfl).look (t := 135) Tryz.underlying135 (zeroI _) ht
    rw [scV_seek] at this; exact this
  have hfew : E.length ≤ 1048577 := by have := h.ok.few; have := h.len.few; have := h.len.deep; dsimp only [List.length_cons] at *; omega
  have e1 : ((E.length + 1 : Nat) : Int) - 1 = E.length := by omega
  have hci : ((E.length : Nat) : Int) < ((E.length + 1 : Nat) : Int) := by omega
  have HLL := hid_mk (h.len.push t hty hv)
  have hvl : l.length ≤ 1048576 := by have : varLen (l :: E) = l.length + varLen E := by simp [varLen]
                                      have := h.ok.few; have := h.len.few; dsimp only at *; omega
  by_cases h0 : seek l t = 0
  · have hno : declC (l :: E, X) t ty p = .ok (((t, ty) :: l) :: E, X) := by
      unfold declC
      exact if_neg (fun hh : inTop (l :: E) t = true => (hst.1 hh) h0)
    rw [hno]
    show Calls _ _ _ _ fun e w' => _ ∧ _
    rw [h0] at HLK
    clear h h1 h2 hrow hlk hst hno hfull h0
    go_enter Tryz.func80, Tryz.ntmps80
    go_wp2
    go_quiet (fail)
    have hlk := HLK.out nq
    go_wp2_with (at_mapUpdate; refine wpList_put rfl _ _ _ 135 3 rfl Tryz.underlying135 b l.length (scV l) rfl (HR.out.maps.1.same rfl) (by unfold maxLen; omega) t ht (.int .i64 ty) rfl rfl ?_; intro w3 hm3 hg3; have HM3 := hid_mk hm3; have HG3 := hid_mk hg3; clear hm3 hg3)
    go_end0
    refine ⟨rfl, ?_⟩
    have hgw : (w.drewN nq).grownBy w3 (some b) := HG3.out
    have hgw' : w.grownBy w3 (some b) := ⟨hgw.os, hgw.tape, hgw.output, hgw.size, hgw.block⟩
    have hb9 := HR.out.maps.mem b (by simp)
    have hr2 : IRaw K w3 (.slice (some ⟨g, 0, none⟩) (E.length + 1) c) tv (b :: bs) (((t, ty) :: l) :: E, X) ret loops sels := by
      obtain ⟨f0, f2, f3, hblk⟩ := HR.out.blk
      refine ⟨⟨f0, f2, f3, (hgw'.block _ HR.out.lt (fun e => ?_)).trans hblk⟩, own_calm HR.out.sc fun k hk => hgw'.block k (HR.out.sc.lt k hk).2 (fun e => map_apart HR.out.sc hb9.2.2 (by rw [hk, e])), own_calm HR.out.ty fun k hk => hgw'.block k (HR.out.ty.lt k hk).2 (fun e => map_apart HR.out.ty hb9.2.2 (by rw [hk, e])), ?_⟩
      · injection e with e; have := HS.out.ok.cu; omega
      · refine ⟨by rw [← scV_push]; exact HM3.out, HR.out.maps.2.1, HR.out.maps.2.2.1, HR.out.maps.2.2.2.same fun k hk => hgw'.block k (HR.out.maps.2.2.2.mem k hk).2.1 fun e => ?_⟩
        injection e with e; subst e; exact HR.out.maps.2.2.1 hk
    refine HS.out.step HR.out HO.out hr2 (fun k hk => .inl hk) HLL.out ?_
    exact Kept.grown hgw' (fun k hk => by injection hk with hk; subst hk; exact .inr (.inr (.inr (by simp))))
  · have hno : declC (l :: E, X) t ty p = .error (6, p) := by
      unfold declC
      exact if_pos (show inTop (l :: E) t = true from hst.2 h0)
    rw [hno]
    show Calls _ _ _ _ fun e w' => _ ∧ _
    have h0' : (seek l t == 0) = false := beq_eq_false_iff_ne.2 h0
    clear h h1 h2 hrow hlk hst hno hfull h0
    generalize seek l t = sk at *
    go_enter Tryz.func80, Tryz.ntmps80
    go_wp2
    go_quiet (fail)
    have hlk := HLK.out nq
    go_wp2
    exact ⟨rfl, rfl, (below_drewN w nq).mono (by have := HS.out.ok.cl; omega)⟩
end Go.Proofs.YtbjianmjdadehaaGreatDoor
namespace Go.Proofs.YtbjianmjdadehaaGreatDoor
open Go.RowKit

structure IEnv (K : IK) (w : World) : Prop where
  fine : K.F.Fine
  row : Row 0 K.lo w K.F K.fv
  ok : treeB K.F = true
  fun' : ∀ j, j < K.F.len → Row 0 K.lo w (K.F.kids j) (K.uf j)
structure INd (K : IK) (w : World) (T : Nd) (v : Value) : Prop where
  fine : T.Fine
  row : Row 0 K.lo w T v
  cost : T.cost ≤ 1048576
theorem IEnv.later {K : IK} {w w' : World} (h : IEnv K w) (hb : Below K.lo w w') : IEnv K w' := ⟨h.fine, row_below hb (Nat.le_refl _) h.row, h.ok, fun j hj => row_below hb (Nat.le_refl _) (h.fun' j hj)⟩
theorem INd.later {K : IK} {w w' : World} {T : Nd} {v : Value} (h : INd K w T v) (hb : Below K.lo w w') : INd K w' T v := ⟨h.fine, row_below hb (Nat.le_refl _) h.row, h.cost⟩
theorem INd.kid {K : IK} {w : World} {T : Nd} {v u : Value} (h : INd K w T v) {i : Nat} (hi : i < T.len) (hr : Row 0 K.lo w (T.kids i) u) : INd K w (T.kids i) u := ⟨Nd.fine_kid h.fine hi, hr, Nat.le_trans (T.cost_kid hi) h.cost⟩
theorem IS.box {K : IK} {w0 : World} {O : Nat → Prop} {s : CS} {ret loops sels : Int} {w : World} (h : IS K w0 O s ret loops sels w) (o : Obj) : Below K.lo w (w.alloc o) :=
  (Below.refl _ _).alloc (by have := h.lt; have := h.ok.cl; omega) _
def IExS (T : Nd) : Prop := ∀ (K : IK) (w0 : World) (O : Nat → Prop) (s : CS) (ret loops sels : Int) (w : World) (v : Value), IS K w0 O s ret loops sels w → IEnv K w → INd K w T v → s.2.length + T.size ≤ K.N → T.eOk = true →
  Calls Tryz.prog 113 #[.pointer (some ⟨K.cb, 0, none⟩), T.val v] w (Ans K w (exT K.F T s) fun r e w' => e = .returned (.int .i64 r.1) ∧ IS K w0 O r.2 ret loops sels w')
def IVaS (T : Nd) : Prop := ∀ (K : IK) (w0 : World) (O : Nat → Prop) (s : CS) (ret loops sels : Int) (w : World) (v : Value), IS K w0 O s ret loops sels w → IEnv K w → INd K w T v → s.2.length + T.size ≤ K.N → T.eOk = true →
  Calls Tryz.prog 108 #[.pointer (some ⟨K.cb, 0, none⟩), T.val v] w (Ans K w (valueM (exT K.F T) s) fun r e w' => e = .returned (.int .i64 r.1) ∧ IS K w0 O r.2 ret loops sels w')
def IWtS (T : Nd) : Prop := ∀ (K : IK) (w0 : World) (O : Nat → Prop) (s : CS) (ret loops sels : Int) (w : World) (v : Value) (ty : Int), IS K w0 O s ret loops sels w → IEnv K w → INd K w T v → s.2.length + T.size ≤ K.N → T.eOk = true →
  Calls Tryz.prog 109 #[.pointer (some ⟨K.cb, 0, none⟩), T.val v, .int .i64 ty] w (Ans K w (wantM (exT K.F T) ty s) fun s' e w' => e = .returned (.tuple #[]) ∧ IS K w0 O s' ret loops sels w')

theorem IS.since {K : IK} {w0 : World} {O : Nat → Prop} {s : CS} {ret loops sels : Int} {w : World} (h : IS K w0 O s ret loops sels w) : ∃ O1 : Nat → Prop, IS K w O1 s ret loops sels w ∧ (∀ s' r' l' o' w', IS K w O1 s' r' l' o' w' → IS K w0 O s' r' l' o' w') ∧ ∀ s' r' l' o' w', IS K w O1 s' r' l' o' w' → Below K.lo w w' := by
  obtain ⟨O1, h1, h2, h3⟩ := h.restart
  exact ⟨O1, h1, h3, fun s' r' l' o' w' h' => h'.below (by have := h.lt; have := h.ok.cl; omega) fun k hk => (h2 k hk).1⟩
set_option maxHeartbeats 2000000 in
set_option maxRecDepth 100000 in
theorem ivalue_of {T : Nd} (hT : IExS T) : IVaS T := by
  intro K w00 O0 s ret loops sels w v hS0 hE hN hfit hok
  obtain ⟨O, hS, hback, hsince⟩ := hS0.since
  have HC := hid_mk (fun o => hT K w O s ret loops sels (w.alloc o) v (hS.alloc o) (hE.later (hS.box o)) (hN.later (hS.box o)) hfit hok)
  have HNX := hid_mk (fun o => next_any (hS.alloc o))
  have HB := hid_mk (fun o => hS.box o)
  have HSI := hid_mk hsince
  have HBK := hid_mk hback
  unfold Nd.val at *
  unfold valueM
  clear hS hS0 hE hN hok hfit hsince hback
  generalize s.2.length = q at *
  generalize T.kind = tk at *
  generalize T.num = tn at *
  generalize T.name = ts at *
  cases hM : exT K.F T s with
  | error p =>
    rw [hM] at HC
    rw [CR.bind_error]
    clear hM
    go_enter Tryz.func108, Tryz.ntmps108
    go_wp2_with (first
      | (go_at_call 122; refine (HNX.out _).mono ?_; rintro e w1 ⟨rfl, rfl⟩)
      | (go_at_call 113; refine (HC.out _).mono ?_; rintro e w1 ⟨rfl, hb1⟩))
    exact ⟨rfl, rfl, (HB.out _).trans hb1⟩
  | ok r =>
    obtain ⟨r1, r2⟩ := r
    rw [hM] at HC
    rw [CR.bind_ok]
    dsimp only
    clear hM
    by_cases h0 : r1 = 0
    · rw [if_pos h0]
      subst h0
      go_enter Tryz.func108, Tryz.ntmps108
      go_wp2_with (first
        | (go_at_call 122; refine (HNX.out _).mono ?_; rintro e w1 ⟨rfl, rfl⟩)
        | (go_at_call 113; refine (HC.out _).mono ?_; rintro e w2 ⟨rfl, hs2⟩; have HS2 := hid_mk hs2; clear hs2))
      exact ⟨rfl, rfl, HSI.out _ _ _ _ _ HS2.out⟩
    · rw [if_neg h0]
      have h0' : (r1 == 0) = false := beq_eq_false_iff_ne.2 h0
      clear h0
      go_enter Tryz.func108, Tryz.ntmps108
      go_wp2_with (first
        | (go_at_call 122; refine (HNX.out _).mono ?_; rintro e w1 ⟨rfl, rfl⟩)
        | (go_at_call 113; refine (HC.out _).mono ?_; rintro e w2 ⟨rfl, hs2⟩; have HS2 := hid_mk hs2; clear hs2))
      go_ret
      exact ⟨rfl, HBK.out _ _ _ _ _ HS2.out⟩

set_option maxHeartbeats 2000000 in
set_option maxRecDepth 100000 in
theorem iwant_of {T : Nd} (hT : IExS T) : IWtS T := by
  intro K w00 O0 s ret loops sels w v ty hS0 hE hN hfit hok
  obtain ⟨O, hS, hback, hsince⟩ := hS0.since
  have HC := hid_mk (fun o => ivalue_of hT K w O s ret loops sels (w.alloc o) v (hS.alloc o) (hE.later (hS.box o)) (hN.later (hS.box o)) hfit hok)
  have HNX := hid_mk (fun o => next_any (hS.alloc o))
  have HB := hid_mk (fun o => hS.box o)
  have HSI := hid_mk hsince
  have HBK := hid_mk hback
  unfold Nd.val at *
  unfold wantM
  clear hS hS0 hE hN hok hfit hsince hback
  generalize s.2.length = q at *
  generalize T.kind = tk at *
  generalize T.num = tn at *
  generalize T.name = ts at *
  cases hM : valueM (exT K.F T) s with
  | error p =>
    rw [hM] at HC
    rw [CR.bind_error]
    clear hM
    go_enter Tryz.func109, Tryz.ntmps109
    go_wp2_with (first
      | (go_at_call 122; refine (HNX.out _).mono ?_; rintro e w1 ⟨rfl, rfl⟩)
      | (go_at_call 108; refine (HC.out _).mono ?_; rintro e w1 ⟨rfl, hb1⟩))
    exact ⟨rfl, rfl, (HB.out _).trans hb1⟩
  | ok r =>
    obtain ⟨r1, r2⟩ := r
    rw [hM] at HC
    rw [CR.bind_ok]
    dsimp only
    clear hM
    by_cases h0 : r1 = ty
    · rw [if_pos h0]
      have h0' : (r1 == ty) = true := beq_iff_eq.2 h0
      have h0n : (r1 != ty) = false := by simp only [bne, h0']; rfl
      clear h0
      go_enter Tryz.func109, Tryz.ntmps109
      go_wp2_with (first
        | (go_at_call 122; refine (HNX.out _).mono ?_; rintro e w1 ⟨rfl, rfl⟩)
        | (go_at_call 108; refine (HC.out _).mono ?_; rintro e w2 ⟨rfl, hs2⟩; have HS2 := hid_mk hs2; clear hs2))
      go_end0
      exact ⟨rfl, HBK.out _ _ _ _ _ HS2.out⟩
    · rw [if_neg h0]
      have h0' : (r1 == ty) = false := beq_eq_false_iff_ne.2 h0
      have h0n : (r1 != ty) = true := by simp only [bne, h0']; rfl
      clear h0
      go_enter Tryz.func109, Tryz.ntmps109
      go_wp2_with (first
        | (go_at_call 122; refine (HNX.out _).mono ?_; rintro e w1 ⟨rfl, rfl⟩)
        | (go_at_call 108; refine (HC.out _).mono ?_; rintro e w2 ⟨rfl, hs2⟩; have HS2 := hid_mk hs2; clear hs2))
      exact ⟨rfl, rfl, HSI.out _ _ _ _ _ HS2.out⟩

def ITyS (T : Nd) : Prop := ∀ (K : IK) (w0 : World) (O : Nat → Prop) (s : CS) (ret loops sels : Int) (w : World) (v : Value), IS K w0 O (take0 s) ret loops sels w → IEnv K w → INd K w T v → s.2.length + T.size ≤ K.N → T.eOk = true →
  Calls Tryz.prog 124 #[.pointer (some ⟨K.cb, 0, none⟩), T.val v, .int .i64 s.2.length] w (Ans K w (typeM K.F T.kind T.name T.len (fun i => exT K.F (T.kids i)) (take0 s) s.2.length) fun r e w' => e = .returned (.int .i64 r.1) ∧ IS K w0 O r.2 ret loops sels w')
theorem IS.setT {K : IK} {w0 : World} {O : Nat → Prop} {s : CS} {ret loops sels : Int} {w : World} (h : IS K w0 O s ret loops sels w) {p : Nat} (hp : p < s.2.length) :
    ∃ g c, w.cell? ⟨K.cb, 2, none⟩ = some (.slice (some ⟨g, 0, none⟩) s.2.length c) ∧ (∃ u, w.cell? ⟨g, p, none⟩ = some u) ∧ w.frozen? ⟨g, p, none⟩ = false ∧ ∀ t, IS K w0 O (s.1, s.2.set p t) ret loops sels (w.setCell ⟨g, p, none⟩ (.int .i64 t)) := by
  obtain ⟨sv, tv, bs, h1, h2⟩ := h.is
  rcases h1.ty.2 with ⟨e1, e2⟩ | ⟨g, cap, cur, e1, hup, hblk, hcap, hmax, hsz, hpre⟩
  · omega
  subst e1
  refine ⟨g, cap, h1.cells.2.2.1, ?_, frozen_of_row w g p _ _ hblk, fun t => ?_⟩
  · have := h1.ty.cells (g := g) rfl p (.int .i64 (s.2[p]'hp)) (by simp [hp])
    rw [add_at] at this
    exact ⟨_, this⟩
  · have hg : w.grownBy (w.setCell ⟨g, p, none⟩ (.int .i64 t)) (some g) := ⟨by simp [World.setCell], by simp [World.setCell], by simp [World.setCell], by simp [World.setCell], fun k _ hk => Below.heap_setCell w ⟨g, p, none⟩ _ k (fun e => hk (by rw [e]))⟩
    have hrow : (w.setCell ⟨g, p, none⟩ (.int .i64 t)).ownsRow K.up 3 1 (.slice (some ⟨g, 0, none⟩) s.2.length cap) s.2.length ((s.2.set p t).map (Value.int .i64)) := by
      refine ⟨by simp, .inr ⟨g, cap, cur.set! p (.int .i64 t), rfl, hup, heap_setCell_same w g p _ _ _ hblk, hcap, hmax, by simp [hsz], ?_⟩⟩
      rw [List.map_set, ← hpre]
      simp [List.take_set]
    have hown : Own sv (.slice (some ⟨g, 0, none⟩) s.2.length cap) bs g := .inr (.inl rfl)
    have hr2 : IRaw K (w.setCell ⟨g, p, none⟩ (.int .i64 t)) sv (.slice (some ⟨g, 0, none⟩) s.2.length cap) bs (s.1, s.2.set p t) ret loops sels := by
      obtain ⟨f0, f2, f3, hb⟩ := h1.blk
      refine ⟨⟨f0, f2, f3, (hg.block _ h1.lt (fun e => ?_)).trans hb⟩, own_calm h1.sc fun k hk => hg.block k (h1.sc.lt k hk).2 (h1.apart hk), ?_, h1.maps.same fun b hb' => hg.block b (h1.maps.mem b hb').2.1 (map_apart h1.ty (h1.maps.mem b hb').2.2)⟩
      · injection e with e; have := h.ok.cu; omega
      · show (w.setCell ⟨g, p, none⟩ (.int .i64 t)).ownsRow K.up 3 1 _ (s.2.set p t).length _
        rw [List.length_set]; exact hrow
    refine h.step h1 h2 hr2 (fun k hk => .inl hk) ⟨?_, ?_, ?_, h.len.full⟩ (Kept.grown hg fun k hk => by injection hk with hk; subst hk; exact .inr hown)
    · rw [List.length_set]; exact h.len.vars
    · rw [List.length_set]; exact h.len.deep
    · rw [List.length_set]; exact h.len.few
set_option maxHeartbeats 2000000 in
set_option maxRecDepth 100000 in
theorem iexpr_of {T : Nd} (hT : ITyS T) : IExS T := by
  intro K w00 O0 s ret loops sels w v hS0 hE hN hfit hok
  obtain ⟨O, hS, hback, hsince⟩ := hS0.since
  have hsz : 0 < T.size := by rw [T.size_eq]; omega
  obtain ⟨O1, hs1, hback1, hbox1, hbl1⟩ := hS.boxed (.cells #[.int .i64 T.kind, .int .i64 T.num, .string T.name, v] 30)
  have HTK := hid_mk (take_any hs1 (by omega))
  have HC := hid_mk (fun (W : World) (hW : IS K (w.alloc (.cells #[.int .i64 T.kind, .int .i64 T.num, .string T.name, v] 30)) O1 (take0 s) ret loops sels W) => hT K _ O1 s ret loops sels W v hW (hE.later (hbl1 _ _ _ _ _ hW)) (hN.later (hbl1 _ _ _ _ _ hW)) hfit hok)
  have HBX := hid_mk hbox1
  have HBL := hid_mk hbl1
  have HB1 := hid_mk hback1
  have HSI := hid_mk hsince
  have HBK := hid_mk hback
  have hfew := hS.ok.few
  have HLN : Hid (∀ r, typeM K.F T.kind T.name T.len (fun i => exT K.F (T.kids i)) (take0 s) s.2.length = .ok r → s.2.length < r.2.2.length ∧ r.2.2.length ≤ 1048576) := by
    intro r hr
    have h1 : exT K.F T s = .ok (r.1, (r.2.1, r.2.2.set s.2.length r.1)) := by rw [exT_eq K.F hok]; unfold exM; rw [hr]; rfl
    have h2 := (ex_len K.F T hok _ _ _ h1).2
    rw [List.length_set] at h2
    omega
  rw [exT_eq K.F hok]
  unfold exM Nd.val at *
  clear hS hS0 hE hN hok hfit hsince hback hs1 hback1 hbox1 hbl1 hsz
  generalize typeM K.F T.kind T.name T.len (fun i => exT K.F (T.kids i)) (take0 s) s.2.length = M at *
  have HQ : Hid (∃ q, q = s.2.length) := ⟨_, rfl⟩
  cases hM : M with
  | error p =>
    subst hM
    rw [CR.bind_error]
    go_enter Tryz.func113, Tryz.ntmps113
    go_wp2_with (first
      | (go_at_call 60; refine HTK.out.mono ?_; rintro e w1 ⟨rfl, hs1⟩; have hbx := HBX.out _ _ _ _ _ hs1; have b0 : w1.cell? ⟨w.heap.size, 0, none⟩ = some (.int .i64 T.kind) := (by simp [World.cell?, hbx]); have b1 : w1.cell? ⟨w.heap.size, 1, none⟩ = some (.int .i64 T.num) := (by simp [World.cell?, hbx]); have b2 : w1.cell? ⟨w.heap.size, 2, none⟩ = some (.string T.name) := (by simp [World.cell?, hbx]); have b3 : w1.cell? ⟨w.heap.size, 3, none⟩ = some v := (by simp [World.cell?, hbx]); have HS1 := hid_mk hs1; clear hs1 hbx)
      | (go_at_call 124; refine (HC.out _ HS1.out).mono ?_; rintro e w2 ⟨rfl, hb2⟩))
    exact ⟨rfl, rfl, (HBL.out _ _ _ _ _ HS1.out).trans hb2⟩
  | ok r =>
    subst hM
    rw [CR.bind_ok]
    obtain ⟨r1, r2⟩ := r
    dsimp only at *
    obtain ⟨hl1, hl2⟩ := HLN.out _ rfl
    dsimp only at hl1 hl2
    have hl1i : ((s.2.length : Nat) : Int) < ((r2.2.length : Nat) : Int) := by omega
    go_enter Tryz.func113, Tryz.ntmps113
    go_wp2_with (first
      | (go_at_call 60; refine HTK.out.mono ?_; rintro e w1 ⟨rfl, hs1⟩; have hbx := HBX.out _ _ _ _ _ hs1; have b0 : w1.cell? ⟨w.heap.size, 0, none⟩ = some (.int .i64 T.kind) := (by simp [World.cell?, hbx]); have b1 : w1.cell? ⟨w.heap.size, 1, none⟩ = some (.int .i64 T.num) := (by simp [World.cell?, hbx]); have b2 : w1.cell? ⟨w.heap.size, 2, none⟩ = some (.string T.name) := (by simp [World.cell?, hbx]); have b3 : w1.cell? ⟨w.heap.size, 3, none⟩ = some v := (by simp [World.cell?, hbx]); have HS1 := hid_mk hs1; clear hs1 hbx)
      | (go_at_call 124; refine (HC.out _ HS1.out).mono ?_; rintro e w2 ⟨rfl, hs2⟩; obtain ⟨g, c, t1, ⟨tu, t2⟩, t3, hset⟩ := (show IS _ _ _ r2 _ _ _ _ from hs2).setT hl1; have HST := hid_mk (hset r1); clear hs2 hset))
    go_ret
    exact ⟨rfl, HBK.out _ _ _ _ _ (HB1.out _ _ _ _ _ HST.out)⟩
end Go.Proofs.YtbjianmjdadehaaGreatDoor
