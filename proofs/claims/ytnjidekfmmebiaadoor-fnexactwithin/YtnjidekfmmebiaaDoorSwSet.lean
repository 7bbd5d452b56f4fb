/- The set's two methods. -/
import Derived.Test.YtnjidekfmmebiaaDoorSwMap
set_option linter.unusedVariables false
namespace Go.Proofs.YtnjidekfmmebiaaDoor
open Go.RowKit

set_option maxHeartbeats 4000000 in
theorem add_of (s : Sn) (m : List Sn) (b n : Nat) (w : World) (hn : n < maxLen) (hk : ∃ l, keyOf Tryd.prog 57 s.key = some l) (h : SetAt w b n m) :
    Calls Tryd.prog 29 #[.map (some b), s.key] w fun e w' => e = .returned (.tuple #[]) ∧ SetAt w' b (n + 1) (s :: m) ∧ Below b w w' ∧ ∀ k, k < w.heap.size → k ≠ b → w'.heap[k]? = w.heap[k]? := by
  obtain ⟨l, hl⟩ := hk
  have HL := hid_mk hl
  have hlt := h.lt
  have hne : ∀ o : Obj, SetAt (w.alloc o) b n m := fun o => h.same (Below.heap_alloc w o b hlt)
  have HS := hid_mk hne
  have HB : ∀ o : Obj, Hid (Below b w (w.alloc o)) := fun o => (Below.refl _ _).alloc (by omega) _
  clear hl h hne
  have HX : Hid (s.key = Value.agg #[.int .i64 s.k, .int .i64 s.c, .int .i64 s.v, .string (traceS s.tr)]) := rfl
  rw [HX.out]
  go_enter Tryd.func29, Tryd.ntmps29
  obtain ⟨w1, hrun, r1, r2⟩ := (HS.out (.cells #[.int .i64 s.k, .int .i64 s.c, .int .i64 s.v, .string (traceS s.tr)] 57)).put Tryd.underlying54 hn HL.out
  rw [HX.out] at hrun
  have R1 := hid_mk r1
  have R2 := hid_mk r2
  clear r1 r2 HX
  go_wp2
  go_end0
  exact ⟨rfl, R1.out, (HB _).out.grown R2.out (by simp; omega) (fun k hk => by cases hk; exact Nat.le_refl _), fun k hk hkb => (R2.out.block k (by simp; omega) (fun e => by cases e; exact hkb rfl)).trans (Below.heap_alloc w _ k hk)⟩

set_option maxHeartbeats 4000000 in
theorem has_of (s : Sn) (m : List Sn) (b n : Nat) (w : World) (hk : ∃ l, keyOf Tryd.prog 57 s.key = some l) (h : SetAt w b n m) :
    Calls Tryd.prog 33 #[.map (some b), s.key] w fun e w' => e = .returned (.bool (hitB s m)) ∧ Below w.heap.size w w' := by
  obtain ⟨l, hl⟩ := hk
  have hlt := h.lt
  have hrun : ∀ o : Obj, (Instr.lookup 54 (.map (some b)) s.key true).run Tryd.prog (w.alloc o) = .ok (.tuple #[.agg #[], .bool (hitB s m)]) (w.alloc o) := fun o =>
    (h.same (Below.heap_alloc w o b hlt)).look Tryd.underlying54 (by rfl) hl
  have HB : ∀ o o' : Obj, Hid (Below w.heap.size w ((w.alloc o).alloc o')) := fun o o' => ((Below.refl _ _).alloc (Nat.le_refl _) _).alloc (by simp) _
  clear h hl
  have HX : Hid (s.key = Value.agg #[.int .i64 s.k, .int .i64 s.c, .int .i64 s.v, .string (traceS s.tr)]) := rfl
  rw [HX.out] at hrun
  rw [HX.out]
  generalize hitB s m = bq at *
  clear HX
  go_enter Tryd.func33, Tryd.ntmps33
  go_wp2
  go_ret
  exact ⟨rfl, (HB _ _).out⟩
end Go.Proofs.YtnjidekfmmebiaaDoor
