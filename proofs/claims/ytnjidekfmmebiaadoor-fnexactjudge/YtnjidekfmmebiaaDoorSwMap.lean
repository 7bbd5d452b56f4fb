/- The program's set of keys. -/
import Derived.Test.YtnjidekfmmebiaaDoorSeState
import Derived.Test.YtnjidekfmmebiaaDoorSwSpec
import Derived.Maps.OwnSet
import Derived.Maps.OwnOps
import Derived.DeepKeys4
set_option linter.unusedVariables false
namespace Go.Proofs.YtnjidekfmmebiaaDoor
open Go.RowKit

theorem laidOut0 : laidOutB Tryd.prog = true := by kernel_rfl
theorem wideK : (match Tryd.prog.underlying 57 with | some (.array _ _) | some (.struct _) => true | _ => false) = true := by rw [Tryd.underlying57]
theorem klaw : WideMaps.KeyLaw Tryd.prog 57 := deep_law_laid laidOut0 (m := 2) (by omega) (of_decide_eq_true (show decide (57 < Tryd.prog.types.size) = true by kernel_rfl)) (by kernel_rfl) wideK
theorem skey : Maps.Keyed Tryd.prog 57 := Maps.Keyed.of_law klaw
theorem ktype : Tryd.prog.keyType 57 = true := by kernel_rfl

theorem cells1 : Tryd.prog.cellsOf 3 = 1 := by kernel_rfl
theorem cells9 : Tryd.prog.cellsOf 9 = 1 := by kernel_rfl
theorem cellsK : Tryd.prog.cellsOf 57 = 4 := by kernel_rfl
theorem ntypes : Tryd.prog.types.size = 101 := by kernel_rfl
theorem okI_wf {x : Int} (h : OkI x) : (Lit.int .i64 x).wf = true := by
  obtain ⟨h1, h2⟩ := h
  simp [Lit.wf, IntKind.min, IntKind.max, IntKind.signed, IntKind.bits]
  omega
theorem keyLits_at (d : Nat) (a b c : Int) (z : ByteArray) (ha : OkI a) (hb : OkI b) (hc : OkI c) (hz : z.size ≤ maxLen) :
    Tryd.prog.keyLits (d + 2) 57 [.int .i64 a, .int .i64 b, .int .i64 c, .string z] = some [.int .i64 a, .int .i64 b, .int .i64 c, .string z.data.toList] := by
  have wa := okI_wf ha
  have wb := okI_wf hb
  have wc := okI_wf hc
  simp [Program.keyLits, Tryd.underlying57, Tryd.underlying3, Tryd.underlying9, cells1, cells9, cellsK, wa, wb, wc, hz]
/-- The key is one. -/
theorem key_of (s : Sn) (hs : s.Ok) (hl : (traceB s.tr).length ≤ maxLen) : ∃ l, keyOf Tryd.prog 57 s.key = some l := by
  have h := keyLits_at (101 - 1) s.k s.c s.v (traceS s.tr) hs.1.1 hs.1.2.1 hs.1.2.2 (by simpa [traceS, ByteArray.size] using hl)
  refine ⟨.string (keyBytes [.int .i64 s.k, .int .i64 s.c, .int .i64 s.v, .string (traceS s.tr).data.toList]), ?_⟩
  unfold keyOf
  rw [Tryd.underlying57]
  simp only [ktype, Bool.true_and]
  rw [if_pos (by unfold Sn.key Value.formed; rw [Tryd.underlying57]; simp [cellsK]), ntypes]
  unfold Sn.key
  rw [show (Value.agg #[.int .i64 s.k, .int .i64 s.c, .int .i64 s.v, .string (traceS s.tr)]).cells.toList = [.int .i64 s.k, .int .i64 s.c, .int .i64 s.v, .string (traceS s.tr)] from rfl]
  rw [show 101 + 1 = 101 - 1 + 2 from rfl, h]
  rfl
theorem key_inj {s t : Sn} (h : s.key = t.key) : sameB s t = true := by
  unfold Sn.key at h
  simp only [Value.agg.injEq, Array.mk.injEq, List.cons.injEq, Value.int.injEq, Value.string.injEq, true_and, and_true] at h
  obtain ⟨h1, h2, h3, h4⟩ := h
  unfold sameB
  rw [decide_eq_true ⟨h1, h2, h3, traceS_inj h4⟩]
theorem key_same {s t : Sn} (h : sameB s t = true) : s.key = t.key := by
  unfold sameB at h
  obtain ⟨h1, h2, h3, h4⟩ := of_decide_eq_true h
  unfold Sn.key
  rw [h1, h2, h3, h4]

/-- A value reads as itself. -/
def hv (v : Value) : Option (DataW Value × List MemPlace) := some (.held v, [])
/-- Block b is a set of at most n keys: those of these. -/
def SetAt (w : World) (b n : Nat) (m : List Sn) : Prop :=
  ∃ D : DataW Value, w.ownsMap Tryd.prog 57 hv b n D ∧ Maps.IsMap D ∧ ∀ (s : Sn) l, keyOf Tryd.prog 57 s.key = some l → (∀ z, D.atKey l z = if hitB s m = true then .held (.agg #[]) else z) ∧ Maps.has D l = hitB s m
theorem set_made (w : World) : SetAt (w.alloc (.map #[] 0)) w.heap.size 0 [] :=
  ⟨.map [], World.ownsMap_made w _ _ _, Maps.isMap_empty, fun x l _ => ⟨fun z => rfl, rfl⟩⟩
theorem SetAt.lt {w : World} {b n : Nat} {m : List Sn} (h : SetAt w b n m) : b < w.heap.size := by obtain ⟨D, h1, _⟩ := h; exact h1.lt
theorem SetAt.same {w w' : World} {b n : Nat} {m : List Sn} (h : SetAt w b n m) (hb : w'.heap[b]? = w.heap[b]?) : SetAt w' b n m := by
  obtain ⟨D, ⟨es, clock, h1, h2⟩, h3⟩ := h
  exact ⟨D, ⟨es, clock, hb.trans h1, h2⟩, h3⟩
theorem SetAt.below {w w' : World} {b n : Nat} {m : List Sn} (h : SetAt w b n m) {B : Nat} (hb : Below B w w') (hB : b < B) : SetAt w' b n m := h.same (hb.block b hB)
theorem SetAt.look {w : World} {b n : Nat} {m : List Sn} (h : SetAt w b n m) {t e : TypeId} (ht : Tryd.prog.underlying t = some (.map 57 e)) (hz : (zeroValue e).run Tryd.prog w = .ok (.agg #[]) w) {s : Sn} {l : Lit} (hx : keyOf Tryd.prog 57 s.key = some l) :
    (Instr.lookup t (.map (some b)) s.key true).run Tryd.prog w = .ok (.tuple #[.agg #[], .bool (hitB s m)]) w := by
  obtain ⟨D, h1, h2, h3⟩ := h
  obtain ⟨v, ps, hr, hv'⟩ := h1.look_ok skey ht hz (zd := .held (.agg #[])) (zp := []) rfl hx
  rw [(h3 s l hx).1] at hv'
  rw [hr, (h3 s l hx).2]
  by_cases e : hitB s m = true
  · rw [if_pos e] at hv'; simp [hv] at hv'; rw [hv'.1]
  · rw [if_neg e] at hv'; simp [hv] at hv'; rw [hv'.1]
theorem hit_cons (s t : Sn) (m : List Sn) : hitB s (t :: m) = (sameB s t || hitB s m) := by simp [hitB]
theorem SetAt.put {w : World} {b n : Nat} {m : List Sn} (h : SetAt w b n m) {t e : TypeId} (ht : Tryd.prog.underlying t = some (.map 57 e)) (hn : n < maxLen) {s : Sn} {l : Lit} (hx : keyOf Tryd.prog 57 s.key = some l) :
    ∃ w', (Instr.mapUpdate t (.map (some b)) s.key (.agg #[])).run Tryd.prog w = .ok () w' ∧ SetAt w' b (n + 1) (s :: m) ∧ w.grownBy w' (some b) := by
  obtain ⟨D, h1, h2, h3⟩ := h
  obtain ⟨w', r1, r2, r3⟩ := h1.update skey ht hn hx (show hv (.agg #[]) = some (.held (.agg #[]), []) from rfl)
  refine ⟨w', r1, ⟨_, r2, h2.put _ _, fun y ly hy => ?_⟩, r3⟩
  rw [hit_cons]
  by_cases e : sameB y s = true
  · have ek := key_same e
    rw [ek] at hy
    obtain rfl := Option.some.inj (hx.symm.trans hy)
    have hk := skey.key hy
    rw [e]
    exact ⟨fun z => by rw [Maps.atKey_put_same h2 hk]; simp, by rw [Maps.has_put_same h2 hk]; simp⟩
  · have hne : ly ≠ l := fun el => e (key_inj (skey.inj hy (el ▸ hx)))
    have e' : sameB y s = false := by simpa using e
    rw [e', Bool.false_or]
    exact ⟨fun z => by rw [Maps.atKey_put_other hne]; exact (h3 y ly hy).1 z, by rw [Maps.has_put_other hne]; exact (h3 y ly hy).2⟩
end Go.Proofs.YtnjidekfmmebiaaDoor
