/- A list that came in, read as data, lies in memory as 'Rw' says. -/
import Derived.Test.YtnjidekfmmebiaaDoorSwRow
import Derived.Test.YtnjidekfmmebiaaDoorSeOpen
set_option linter.unusedVariables false
namespace Go.Proofs.YtnjidekfmmebiaaDoor
open Go.RowKit Go.ChangeShapes Go.WideShapes

theorem open_sns {H : Type} {enc : TypeId × Value → H} {P : Program} {W : World} {sp : Nat → Bool} {held : Bool} {t t' : TypeId} {f0 f1 f2 f3 f4 : Field} {e : TypeId} (ht' : P.underlying t' = some (.slice t)) (ht : P.underlying t = some (.struct #[f0, f1, f2, f3, f4]))
    (o0 : f0.offset = 0) (o1 : f1.offset = 1) (o2 : f2.offset = 2) (o3 : f3.offset = 3) (o4 : f4.offset = 4)
    (i0 : P.underlying f0.type = some (.int .i64)) (i1 : P.underlying f1.type = some (.int .i64)) (i2 : P.underlying f2.type = some (.int .i64)) (i3 : P.underlying f3.type = some (.slice e)) (i4 : P.underlying f4.type = some (.slice e)) (he : P.underlying e = some (.int .i64))
    (c0 : P.cellsOf f0.type = 1) (c1 : P.cellsOf f1.type = 1) (c2 : P.cellsOf f2.type = 1) (c3 : P.cellsOf f3.type = 1) (c4 : P.cellsOf f4.type = 1) (ce : P.cellsOf e = 1) (ct : P.cellsOf t = 5)
    (fuel : Nat) (d : Value) (x : DataW H × List MemPlace) (h : DataW.trod enc P W 0 sp held fuel t' [d] = some x) :
      ∃ ss : List Sn, OkS ss ∧ Rw 0 W.heap.size W ss d := by
  rcases DataW.trod_slice ht' h with ⟨e3, _⟩ | ⟨ad, len, cap, elems, rest, q, hq, e3, _, _, hlc, hcm, hel, hat, _, _⟩
  · obtain rfl : d = .slice none 0 0 := by simpa using e3
    exact ⟨[], ⟨Nat.zero_le _, fun x hx => by cases hx⟩, none, 0, rfl, .inl rfl⟩
  · obtain rfl : d = .slice (some ad) len cap := by simpa using e3
    unfold maxLen at hcm
    have hk : ∀ i, i < len → ∃ s : Sn, ∃ a b, W.cells? 0 (ad.add (i * 5)) 5 = some [.int .i64 s.k, .int .i64 s.c, .int .i64 s.v, a, b] ∧ s.Ok ∧ At 0 W.heap.size W s a b := by
      intro i hi
      have := hat i hi
      rw [ct, List.getElem?_eq_getElem (by omega : i < elems.length), Option.bind_eq_some_iff] at this
      obtain ⟨cs', hcs, htr⟩ := this
      obtain ⟨s, a, b, rfl, hok, hA⟩ := open_sn ht o0 o1 o2 o3 o4 i0 i1 i2 i3 i4 he c0 c1 c2 c3 c4 ce ct _ _ _ htr
      exact ⟨s, a, b, hcs, hok, hA⟩
    have hin : Inhabited Sn := ⟨⟨0, 0, 0, [], []⟩⟩
    obtain ⟨f, hf⟩ := Go.Deep.choose_lt hk
    refine ⟨(List.range len).map f, ⟨by simp; omega, fun s hs => ?_⟩, some ad, cap, by simp, ?_⟩
    · obtain ⟨i, hi, rfl⟩ := List.mem_map.1 hs
      obtain ⟨a, b, _, hok, _⟩ := hf i (List.mem_range.1 hi)
      exact hok
    · by_cases h0 : len = 0
      · exact .inl (by simp [h0])
      · obtain ⟨a, b, hcs, _⟩ := hf 0 (by omega)
        have hc0 := (World.cells?_some hcs).2.2 0 (by omega)
        have ee : (ad.add (0 * 5)).add 0 = ad := by simp [Addr.add]
        rw [ee] at hc0
        have had := spot_none hc0
        refine .inr ⟨ad.block, ad.off, by rw [← had], Nat.zero_le _, cell_lt hc0, fun i hi => ?_⟩
        have hi' : i < len := by simpa using hi
        obtain ⟨a, b, hcs, _, hA⟩ := hf i hi'
        have hcc := (World.cells?_some hcs).2.2
        have hadd : ∀ j, (ad.add (i * 5)).add j = ⟨ad.block, ad.off + i * 5 + j, none⟩ := fun j => by rw [add_none (add_none had (i * 5)) j]
        have g0 := hcc 0 (by omega)
        have g1 := hcc 1 (by omega)
        have g2 := hcc 2 (by omega)
        have g3 := hcc 3 (by omega)
        have g4 := hcc 4 (by omega)
        rw [hadd] at g0 g1 g2 g3 g4
        have eg : ((List.range len).map f)[i] = f i := by simp
        rw [eg]
        exact ⟨a, b, ⟨g0, g1, g2, g3, g4⟩, hA⟩
end Go.Proofs.YtnjidekfmmebiaaDoor
