/- A list of numbers, appended to an empty one: a new list. -/
import Derived.Test.YtnjidekfmmebiaaDoorJdRep
import Derived.Deep.Upon
set_option linter.unusedVariables false
namespace Go.Proofs.YtnjidekfmmebiaaDoor
open Go.RowKit

/-- What is new: a list of numbers in a block of its own, or none. -/
def NewI (W W' : World) (xs : List Int) (v : Value) : Prop := (∃ a c, v = .slice a xs.length c ∧ (xs.length = 0 ∨ a = some ⟨W.heap.size, 0, none⟩ ∧ W.heap.size < W'.heap.size ∧ ∀ i (h : i < xs.length), W'.cell? ⟨W.heap.size, i, none⟩ = some (.int .i64 xs[i]))) ∧ Below W.heap.size W W' ∧ Warm W.heap.size W'
theorem NewI.il {W W' : World} {xs : List Int} {v : Value} (h : NewI W W' xs v) : Il W.heap.size W'.heap.size W' xs v := by
  obtain ⟨⟨a, c, rfl, h⟩, _, _⟩ := h
  refine ⟨a, c, rfl, ?_⟩
  rcases h with h | ⟨rfl, h1, h2⟩
  · exact .inl h
  · exact .inr ⟨W.heap.size, 0, rfl, Nat.le_refl _, h1, fun i hi => by rw [Nat.zero_add]; exact h2 i hi⟩

theorem app_ints (xs : List Int) (v : Value) (lo hi : Nat) (W : World) (hl : xs.length ≤ 1048576) (h : Il lo hi W xs v) (b0 : Nat) :
    ∃ v' W', (∀ ty, (Builtin.append_ #[33, 33] ty #[.slice (some ⟨b0, 0, none⟩) 0 0, v]).run Tryd.prog W = .ok v' W') ∧ NewI W W' xs v' := by
  obtain ⟨i0, hi0, hz0, hz1, hz2⟩ := info_parts info_int
  obtain ⟨a, cap, rfl, hq⟩ := h
  by_cases h0 : xs.length = 0
  · have hs : Src Tryd.prog i0.size 33 (.slice a xs.length cap) 0 [] W := by
      rw [h0]
      cases a with
      | none => exact Src.ofNil W Tryd.underlying33 cap
      | some ad => exact Src.ofSlice W Tryd.underlying33 ad 0 cap [] (by simp) (fun j u hj => by simp at hj) (fun u hu => by cases hu)
    refine ⟨_, _, fun ty => run_append_nothing (P := Tryd.prog) W 33 33 ty 3 i0 Tryd.underlying33 hi0 (some ⟨b0, 0, none⟩) 0 0 (Nat.le_refl _) _ hs, ⟨_, _, by rw [h0], .inl h0⟩, Below.refl _ _, Warm.start W⟩
  · rcases hq with e | ⟨g, off, rfl, h1, h2, h3⟩
    · exact absurd e h0
    have hs : Src Tryd.prog i0.size 33 (.slice (some ⟨g, off, none⟩) xs.length cap) xs.length (xs.map (Value.int .i64)) W := by
      refine Src.ofSlice W Tryd.underlying33 ⟨g, off, none⟩ xs.length cap _ (by rw [hz1]; simp) (fun j u hj => ?_) (fun u hu => by obtain ⟨x, _, rfl⟩ := List.mem_map.1 hu; rfl)
      rw [List.getElem?_map] at hj
      obtain ⟨x, hx, rfl⟩ := Option.map_eq_some_iff.1 hj
      obtain ⟨hj', rfl⟩ := List.getElem?_eq_some_iff.1 hx
      rw [Addr.add_lit]
      exact h3 j hj'
    have hr := fun ty => run_append_grow_src (P := Tryd.prog) W 33 33 ty 3 i0 (.int .i64 0) Tryd.underlying33 hi0 hz0 (some ⟨b0, 0, none⟩) 0 0 [] (run_firstCells_some W.drew i0.size 0 _ 0 0 [] (by simp) (fun j u hj => by simp at hj)) _ xs.length (xs.map (Value.int .i64)) hs (by omega) (by omega) (growslice_fits (by omega) (by rw [hz2]; omega))
    simp only [Nat.zero_add, List.nil_append] at hr
    refine ⟨_, _, hr, ⟨_, _, rfl, .inr ⟨rfl, ?_, fun i hi => ?_⟩⟩, ((Below.refl _ _).drew).alloc (Nat.le_refl _) _, ((Warm.start W.drew)).alloc _ _⟩
    · rw [World.size_alloc]; exact Nat.lt_succ_self _
    · rw [cell_of_row _ W.heap.size i _ _ (0, 0) (heap_alloc_new W.drew _)]
      rw [Array.getElem?_append_left (by simpa using hi)]
      simp [hi]
end Go.Proofs.YtnjidekfmmebiaaDoor
