/- The program's iterator over nodes is made. -/
import Derived.Test.YtjgbjahcnnjfpaaNdWalk
import Derived.RangeFuncBox
set_option linter.unusedVariables false
namespace Go.Proofs.Ytjgbjahcnnjfpaa
open Go.RowKit Go.Shelf
attribute [local go_sem] Oper.semAt_some

theorem walk_any (tk tn : Int) (ts : ByteArray) (a : Option Addr) (l c : Nat) (f : Value) (w : World) (hf : f = .func (.func 15) #[] #[]) :
    Calls Try.prog 14 #[.agg #[.int .i64 tk, .int .i64 tn, .string ts, .slice a l c], f] w fun e w' => e = .returned (.func (.func 16) #[] #[.pointer (some ⟨w.heap.size, 0, none⟩), .pointer (some ⟨w.heap.size + 1, 0, none⟩)]) ∧
      w' = (w.alloc (.cells #[.int .i64 tk, .int .i64 tn, .string ts, .slice a l c] 29)).alloc (.cells #[.func (.func 15) #[] #[]] 40) := by
  subst hf
  go_enter Try.func14, Try.ntmps14
  go_wp2
  go_ret
  exact ⟨rfl, rfl⟩

theorem nodes_any (tk tn : Int) (ts : ByteArray) (a : Option Addr) (l c : Nat) (w : World) :
    Calls Try.prog 12 #[.agg #[.int .i64 tk, .int .i64 tn, .string ts, .slice a l c]] w fun e w' => e = .returned (.func (.func 16) #[] #[.pointer (some ⟨w.heap.size + 1, 0, none⟩), .pointer (some ⟨w.heap.size + 1 + 1, 0, none⟩)]) ∧
      w' = ((w.alloc (.cells #[.int .i64 tk, .int .i64 tn, .string ts, .slice a l c] 29)).alloc (.cells #[.int .i64 tk, .int .i64 tn, .string ts, .slice a l c] 29)).alloc (.cells #[.func (.func 15) #[] #[]] 40) := by
  go_enter Try.func12, Try.ntmps12
  go_wp2_with (go_at_call 14; refine (walk_any _ _ _ _ _ _ _ _ rfl).mono ?_; rintro e w' ⟨rfl, rfl⟩)
  go_ret
  exact ⟨by simp, rfl⟩

end Go.Proofs.Ytjgbjahcnnjfpaa
