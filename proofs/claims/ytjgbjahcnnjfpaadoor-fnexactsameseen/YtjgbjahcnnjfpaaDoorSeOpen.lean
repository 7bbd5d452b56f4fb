/- What came in, read as data, lies in memory as 'At' says. -/
import Derived.Test.YtjgbjahcnnjfpaaDoorSeIl
import Derived.ChangeArms
import Derived.DataReads
import Derived.Deep.Slices
set_option linter.unusedVariables false
namespace Go.Proofs.YtjgbjahcnnjfpaaDoor
open Go.RowKit Go.ChangeShapes Go.WideShapes

theorem add_none {a : Addr} {g off : Nat} (h : a = ⟨g, off, none⟩) (n : Nat) : a.add n = ⟨g, off + n, none⟩ := by
  subst h; unfold Addr.add; split
  · rename_i h; subst h; rfl
  · rfl
theorem spot_none {w : World} {a : Addr} {v : Value} (h : w.cell? a = some v) : a = ⟨a.block, a.off, none⟩ := by
  cases a with
  | mk g off spot =>
    cases spot with
    | none => rfl
    | some k =>
      unfold World.cell? at h
      split at h
      · simp at h
      · cases h
theorem cell_lt {w : World} {a : Addr} {v : Value} (h : w.cell? a = some v) : a.block < w.heap.size := by
  unfold World.cell? at h
  split at h
  · rename_i c _ _ hh; exact (Array.getElem?_eq_some_iff.1 hh).1
  · cases h

theorem open_ints {H : Type} {enc : TypeId × Value → H} {P : Program} {W : World} {sp : Nat → Bool} {held : Bool} {t e : TypeId} {fuel : Nat} {d : Value} {x : DataW H × List MemPlace} (ht : P.underlying t = some (.slice e)) (he : P.underlying e = some (.int .i64)) (ce : P.cellsOf e = 1)
    (h : DataW.trod enc P W 0 sp held fuel t [d] = some x) : ∃ xs : List Int, OkL xs ∧ Il 0 W.heap.size W xs d := by
  rcases DataW.trod_slice ht h with ⟨e3, _⟩ | ⟨ad, len, cap, elems, rest, q, hq, e3, _, _, hlc, hcm, hel, hat, _, _⟩
  · obtain rfl : d = .slice none 0 0 := by simpa using e3
    exact ⟨[], ⟨Nat.zero_le _, fun x hx => by cases hx⟩, none, 0, rfl, .inl rfl⟩
  · obtain rfl : d = .slice (some ad) len cap := by simpa using e3
    unfold maxLen at hcm
    have hk : ∀ i, i < len → ∃ z : Int, W.cells? 0 (ad.add (i * 1)) 1 = some [.int .i64 z] ∧ OkI z := by
      intro i hi
      have := hat i hi
      rw [ce, List.getElem?_eq_getElem (by omega : i < elems.length), Option.bind_eq_some_iff] at this
      obtain ⟨cs', hcs, htr⟩ := this
      obtain ⟨z, e0, _, w0⟩ := DataW.trod_int he htr
      rw [e0] at hcs
      exact ⟨z, hcs, by simpa [Lit.wf, IntKind.min, IntKind.max, IntKind.signed, IntKind.bits, OkI] using w0⟩
    have hin : Inhabited Int := ⟨0⟩
    obtain ⟨f, hf⟩ := Go.Deep.choose_lt hk
    refine ⟨(List.range len).map f, ⟨by simp; omega, fun x hx => ?_⟩, some ad, cap, by simp, ?_⟩
    · obtain ⟨i, hi, rfl⟩ := List.mem_map.1 hx
      exact (hf i (List.mem_range.1 hi)).2
    · by_cases h0 : len = 0
      · exact .inl (by simp [h0])
      · have hc0 := (World.cells?_some (hf 0 (by omega)).1).2.2 0 (by omega)
        have e : (ad.add (0 * 1)).add 0 = ad := by simp [Addr.add]
        rw [e] at hc0
        have had := spot_none hc0
        refine .inr ⟨ad.block, ad.off, by rw [← had], Nat.zero_le _, cell_lt hc0, fun i hi => ?_⟩
        have hi' : i < len := by simpa using hi
        have hci := (World.cells?_some (hf i hi').1).2.2 0 (by omega)
        rw [add_none (add_none had (i * 1)) 0] at hci
        simpa using hci

theorem open_sn {H : Type} {enc : TypeId × Value → H} {P : Program} {W : World} {sp : Nat → Bool} {held : Bool} {t : TypeId} {f0 f1 f2 f3 f4 : Field} {e : TypeId} (ht : P.underlying t = some (.struct #[f0, f1, f2, f3, f4]))
    (o0 : f0.offset = 0) (o1 : f1.offset = 1) (o2 : f2.offset = 2) (o3 : f3.offset = 3) (o4 : f4.offset = 4)
    (i0 : P.underlying f0.type = some (.int .i64)) (i1 : P.underlying f1.type = some (.int .i64)) (i2 : P.underlying f2.type = some (.int .i64)) (i3 : P.underlying f3.type = some (.slice e)) (i4 : P.underlying f4.type = some (.slice e)) (he : P.underlying e = some (.int .i64))
    (c0 : P.cellsOf f0.type = 1) (c1 : P.cellsOf f1.type = 1) (c2 : P.cellsOf f2.type = 1) (c3 : P.cellsOf f3.type = 1) (c4 : P.cellsOf f4.type = 1) (ce : P.cellsOf e = 1) (ct : P.cellsOf t = 5)
    (fuel : Nat) (cs : List Value) (x : DataW H × List MemPlace) (h : DataW.trod enc P W 0 sp held fuel t cs = some x) :
      ∃ (s : Sn) (a b : Value), cs = [.int .i64 s.k, .int .i64 s.c, .int .i64 s.v, a, b] ∧ s.Ok ∧ At 0 W.heap.size W s a b := by
  obtain ⟨xs, n, rfl, _, hl, hxl, hx⟩ := DataW.trod_struct ht h
  rw [ct] at hl
  obtain ⟨a, b, c, d, g, rfl⟩ : ∃ a b c d g, cs = [a, b, c, d, g] := by
    match cs, hl with
    | [a, b, c, d, g], _ => exact ⟨a, b, c, d, g, rfl⟩
  obtain ⟨y0, y1, y2, y3, y4, rfl⟩ : ∃ a b c d g, xs = [a, b, c, d, g] := by
    match xs, hxl with
    | [a, b, c, d, g], _ => exact ⟨a, b, c, d, g, rfl⟩
  have h0 := hx 0 f0 rfl
  have h1 := hx 1 f1 rfl
  have h2 := hx 2 f2 rfl
  have h3 := hx 3 f3 rfl
  have h4 := hx 4 f4 rfl
  rw [o0, c0] at h0
  rw [o1, c1] at h1
  rw [o2, c2] at h2
  rw [o3, c3] at h3
  rw [o4, c4] at h4
  obtain ⟨k, e0, _, w0⟩ := DataW.trod_int i0 h0
  obtain ⟨m, e1, _, w1⟩ := DataW.trod_int i1 h1
  obtain ⟨v, e2, _, w2⟩ := DataW.trod_int i2 h2
  obtain rfl : a = .int .i64 k := by simpa using e0
  obtain rfl : b = .int .i64 m := by simpa using e1
  obtain rfl : c = .int .i64 v := by simpa using e2
  have wk : OkI k := by simpa [Lit.wf, IntKind.min, IntKind.max, IntKind.signed, IntKind.bits, OkI] using w0
  have wm : OkI m := by simpa [Lit.wf, IntKind.min, IntKind.max, IntKind.signed, IntKind.bits, OkI] using w1
  have wv : OkI v := by simpa [Lit.wf, IntKind.min, IntKind.max, IntKind.signed, IntKind.bits, OkI] using w2
  obtain ⟨tr, ok1, il1⟩ := open_ints (d := d) i3 he ce (by simpa using h3)
  obtain ⟨sc, ok2, il2⟩ := open_ints (d := g) i4 he ce (by simpa using h4)
  exact ⟨⟨k, m, v, tr, sc⟩, d, g, rfl, ⟨⟨wk, wm, wv⟩, ok1, ok2⟩, il1, il2⟩
end Go.Proofs.YtjgbjahcnnjfpaaDoor
