/- A tree that came in, read as data, lies in memory as 'Row' says. -/
import Derived.Test.YtjgbjahcnnjfpaaNd
import Derived.ChangeArms
import Derived.DataReads
import Derived.Deep.Slices
set_option linter.unusedVariables false
namespace Go.Proofs.Ytjgbjahcnnjfpaa
open Go.RowKit Go.ChangeShapes Go.WideShapes

theorem add_none {a : Addr} {g off : Nat} (h : a = ⟨g, off, none⟩) (n : Nat) : a.add n = ⟨g, off + n, none⟩ := by
  subst h; unfold Addr.add; split
  · rename_i h; subst h; rfl
  · rfl
theorem spot_none {w : World} {a : Addr} {v : Value} (h : w.cell? a = some v) : a = ⟨a.block, a.off, none⟩ := by
  cases a with
  | mk g off spot =>
    cases spot with
    | none => rfl
    | some k =>
      unfold World.cell? at h
      split at h
      · simp at h
      · cases h
theorem cell_lt {w : World} {a : Addr} {v : Value} (h : w.cell? a = some v) : a.block < w.heap.size := by
  unfold World.cell? at h
  split at h
  · rename_i c _ _ hh; exact (Array.getElem?_eq_some_iff.1 hh).1
  · cases h

theorem open_nd {H : Type} {enc : TypeId × Value → H} {P : Program} {W : World} {sp : Nat → Bool} {held : Bool} {t : TypeId} {f0 f1 f2 f3 : Field} (ht : P.underlying t = some (.struct #[f0, f1, f2, f3]))
    (o0 : f0.offset = 0) (o1 : f1.offset = 1) (o2 : f2.offset = 2) (o3 : f3.offset = 3)
    (i0 : P.underlying f0.type = some (.int .i64)) (i1 : P.underlying f1.type = some (.int .i64)) (i2 : P.underlying f2.type = some .string) (i3 : P.underlying f3.type = some (.slice t))
    (c0 : P.cellsOf f0.type = 1) (c1 : P.cellsOf f1.type = 1) (c2 : P.cellsOf f2.type = 1) (c3 : P.cellsOf f3.type = 1) (ct : P.cellsOf t = 4) :
    ∀ (fuel : Nat) (cs : List Value) (x : DataW H × List MemPlace), DataW.trod enc P W 0 sp held fuel t cs = some x →
      ∃ (T : Nd) (v : Value), cs = [.int .i64 T.kind, .int .i64 T.num, .string T.name, v] ∧ T.Fine ∧ Row 0 W.heap.size W T v := by
  intro fuel
  induction fuel using Nat.strongRecOn with
  | ind fuel ih =>
  intro cs x h
  obtain ⟨xs, n, rfl, _, hl, hxl, hx⟩ := DataW.trod_struct ht h
  rw [ct] at hl
  obtain ⟨a, b, c, d, rfl⟩ : ∃ a b c d, cs = [a, b, c, d] := by
    match cs, hl with
    | [a, b, c, d], _ => exact ⟨a, b, c, d, rfl⟩
  obtain ⟨y0, y1, y2, y3, rfl⟩ : ∃ a b c d, xs = [a, b, c, d] := by
    match xs, hxl with
    | [a, b, c, d], _ => exact ⟨a, b, c, d, rfl⟩
  have h0 := hx 0 f0 rfl
  have h1 := hx 1 f1 rfl
  have h2 := hx 2 f2 rfl
  have h3 := hx 3 f3 rfl
  rw [o0, c0] at h0
  rw [o1, c1] at h1
  rw [o2, c2] at h2
  rw [o3, c3] at h3
  obtain ⟨k, e0, _, w0⟩ := DataW.trod_int i0 h0
  obtain ⟨m, e1, _, w1⟩ := DataW.trod_int i1 h1
  obtain ⟨s, e2, _, w2⟩ := DataW.trod_string i2 h2
  obtain rfl : a = .int .i64 k := by simpa using e0
  obtain rfl : b = .int .i64 m := by simpa using e1
  obtain rfl : c = .string s := by simpa using e2
  have wk : -9223372036854775808 ≤ k ∧ k ≤ 9223372036854775807 := by simpa [Lit.wf, IntKind.min, IntKind.max, IntKind.signed, IntKind.bits] using w0
  have wm : -9223372036854775808 ≤ m ∧ m ≤ 9223372036854775807 := by simpa [Lit.wf, IntKind.min, IntKind.max, IntKind.signed, IntKind.bits] using w1
  unfold maxLen at w2
  rcases DataW.trod_slice i3 h3 with ⟨e3, _⟩ | ⟨ad, len, cap, elems, rest, q, hq, e3, _, _, hlc, hcm, hel, hat, _, _⟩
  · obtain rfl : d = .slice none 0 0 := by simpa using e3
    exact ⟨.mk k m s 0 (fun _ => .nil), .slice none 0 0, rfl, ⟨wk, wm, w2, Nat.zero_le _, fun i hi => absurd hi (Nat.not_lt_zero _)⟩, none, 0, rfl, ⟨Nat.le_refl _, Nat.zero_le _⟩, .inl rfl⟩
  · obtain rfl : d = .slice (some ad) len cap := by simpa using e3
    unfold maxLen at hcm
    have hk : ∀ i, i < len → ∃ K : Nd, ∃ v, W.cells? 0 (ad.add (i * 4)) 4 = some [.int .i64 K.kind, .int .i64 K.num, .string K.name, v] ∧ K.Fine ∧ Row 0 W.heap.size W K v := by
      intro i hi
      have := hat i hi
      rw [ct, List.getElem?_eq_getElem (by omega : i < elems.length), Option.bind_eq_some_iff] at this
      obtain ⟨cs', hcs, htr⟩ := this
      obtain ⟨K, v, rfl, hf, hr⟩ := ih q (by omega) cs' _ htr
      exact ⟨K, v, hcs, hf, hr⟩
    have hin : Inhabited Nd := ⟨.nil⟩
    obtain ⟨f, hf⟩ := Go.Deep.choose_lt hk
    refine ⟨.mk k m s len f, .slice (some ad) len cap, rfl, ⟨wk, wm, w2, by show len ≤ _; omega, fun i hi => (hf i hi).choose_spec.2.1⟩, some ad, cap, rfl, ⟨hlc, hcm⟩, ?_⟩
    by_cases h0 : len = 0
    · exact .inl h0
    · refine .inr ⟨ad.block, ad.off, ?_, Nat.zero_le _, ?_, fun i hi => ?_⟩
      · obtain ⟨v, hc, _⟩ := hf 0 (by omega)
        have := (World.cells?_some hc).2.2 0 (by omega)
        have e : (ad.add (0 * 4)).add 0 = ad := by simp [Addr.add]
        rw [e] at this
        rw [← spot_none this]
      · obtain ⟨v, hc, _⟩ := hf 0 (by omega)
        have := (World.cells?_some hc).2.2 0 (by omega)
        have e : (ad.add (0 * 4)).add 0 = ad := by simp [Addr.add]
        rw [e] at this
        exact cell_lt this
      · have had : ad = ⟨ad.block, ad.off, none⟩ := by
          obtain ⟨v, hc, _⟩ := hf 0 (by omega)
          have := (World.cells?_some hc).2.2 0 (by omega)
          have e : (ad.add (0 * 4)).add 0 = ad := by simp [Addr.add]
          rw [e] at this
          exact spot_none this
        obtain ⟨v, hc, _, hr⟩ := hf i hi
        have hcc := (World.cells?_some hc).2.2
        have e : ∀ j, (ad.add (i * 4)).add j = ⟨ad.block, ad.off + i * 4 + j, none⟩ := fun j => by rw [add_none (add_none had (i * 4)) j]
        have g0 := hcc 0 (by omega)
        have g1 := hcc 1 (by omega)
        have g2 := hcc 2 (by omega)
        have g3 := hcc 3 (by omega)
        rw [e] at g0 g1 g2 g3
        exact ⟨v, g0, g1, g2, g3, hr⟩
end Go.Proofs.Ytjgbjahcnnjfpaa
