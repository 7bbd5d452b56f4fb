/- The laws' budget of what was seen. -/
import Derived.Test.YtjgbjahcnnjfpaaDoorSeIl
import Derived.WalkSpells
import Derived.WalkSmall
set_option linter.unusedVariables false
namespace Go.Proofs.YtjgbjahcnnjfpaaDoor
open Go.RowKit

theorem ret_in {k : IntKind} {a b : Int} (h : a = b) : Ending.returned (.int k a) = .returned (.int k b) := by rw [h]

theorem sz_ints (a : Option Addr) (n cap l : Nat) (w : World) (hn : n ≤ 9223372036854775807) (hl : l ≤ 1048576) :
    Calls Tryd.prog 23 #[.slice a n cap, .int .i64 l] w fun e w' => e = .returned (.int .i64 (left' n l)) ∧ w' = w := by
  have hw : IntKind.i64.wrap ((l : Int) - (n : Int)) = (l : Int) - (n : Int) := by simp [IntKind.wrap, IntKind.bits, IntKind.signed]; omega
  by_cases h : n ≤ l
  · have e : left' n l = (l : Int) - (n : Int) := by unfold left'; rw [if_pos h]; omega
    rw [e]
    clear e
    go_enter Tryd.func23, Tryd.ntmps23
    go_wp2
    go_ret
    exact ⟨rfl, rfl⟩
  · have e : left' n l = -1 := by unfold left'; rw [if_neg h]
    rw [e]
    clear e
    go_enter Tryd.func23, Tryd.ntmps23
    go_wp2
    go_ret
    exact ⟨rfl, rfl⟩

set_option maxHeartbeats 2000000 in
theorem sz_seen (s : Sn) (a b : Value) (lo hi l : Nat) (w : World) (hs : s.Ok) (h : At lo hi w s a b) (hl : l ≤ 1048576) :
    Calls Tryd.prog 7 #[s.val a b, .int .i64 l] w fun e w' => e = .returned (.int .i64 (left' s.cost l)) ∧ Below w.heap.size w w' := by
  obtain ⟨aa, ca, rfl⟩ := h.1.shape
  obtain ⟨ab, cb, rfl⟩ := h.2.shape
  have h1 := hs.2.1.1
  have h2 := hs.2.2.1
  unfold Sn.val Sn.cost
  clear h hs
  generalize s.tr.length = n at *
  generalize s.sc.length = m at *
  have HB : ∀ o : Obj, Hid (Below w.heap.size w (w.alloc o)) := fun o => (Below.refl _ _).alloc (Nat.le_refl _) _
  by_cases hn : n ≤ l
  · have e1 : left' n l = ((l - n : Nat) : Int) := by unfold left'; rw [if_pos hn]
    have C1 := hid_mk (fun W => sz_ints aa n ca l W h1 hl)
    have C2 := hid_mk (fun W => sz_ints ab m cb (l - n) W h2 (by omega))
    rw [e1] at C1
    by_cases hm : m ≤ l - n
    · have e2 : left' m (l - n) = ((l - n - m : Nat) : Int) := by unfold left'; rw [if_pos hm]
      have e3 : left' (n + m) l = ((l - n - m : Nat) : Int) := by unfold left'; rw [if_pos (by omega)]; omega
      rw [e2] at C2
      rw [e3]
      clear e1 e2 e3
      generalize l - n = q at *
      generalize q - m = r at *
      go_enter Tryd.func7, Tryd.ntmps7
      go_wp2_with fail
      refine (C1.out _).mono ?_
      rintro e w1 ⟨rfl, rfl⟩
      go_wp2_with fail
      refine (C2.out _).mono ?_
      rintro e w1 ⟨rfl, rfl⟩
      go_wp2
      go_ret
      exact ⟨rfl, (HB _).out⟩
    · have e2 : left' m (l - n) = -1 := by unfold left'; rw [if_neg hm]
      have e3 : left' (n + m) l = -1 := by unfold left'; rw [if_neg (by omega)]
      rw [e2] at C2
      rw [e3]
      clear e1 e2 e3
      generalize l - n = q at *
      go_enter Tryd.func7, Tryd.ntmps7
      go_wp2_with fail
      refine (C1.out _).mono ?_
      rintro e w1 ⟨rfl, rfl⟩
      go_wp2_with fail
      refine (C2.out _).mono ?_
      rintro e w1 ⟨rfl, rfl⟩
      go_wp2
      go_ret
      exact ⟨rfl, (HB _).out⟩
  · have e1 : left' n l = -1 := by unfold left'; rw [if_neg hn]
    have e3 : left' (n + m) l = -1 := by unfold left'; rw [if_neg (by omega)]
    have C1 := hid_mk (fun W => sz_ints aa n ca l W h1 hl)
    rw [e1] at C1
    rw [e3]
    clear e1 e3
    go_enter Tryd.func7, Tryd.ntmps7
    go_wp2_with (go_at_call 23; refine (C1.out _).mono ?_; rintro e w1 ⟨rfl, rfl⟩)
    go_ret
    exact ⟨rfl, (HB _).out⟩
end Go.Proofs.YtjgbjahcnnjfpaaDoor
