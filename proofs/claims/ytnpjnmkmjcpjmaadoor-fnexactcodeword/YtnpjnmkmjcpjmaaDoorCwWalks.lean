/- The walks of CodeWord and of the law FnExactCodeWord. -/
import Derived.Test.YtnpjnmkmjcpjmaaDoorCwSpec
namespace Go.Proofs.YtnpjnmkmjcpjmaaDoor
open Go.RowKit

theorem impl_cw_out (code : Int) (w : World) (h : code < 0 ∨ 15 ≤ code) :
    Calls Tryd.prog 10 #[.int .i64 code] w fun e w' => e = .returned (.string ⟨#[]⟩) ∧ w' = w := by
  rcases h with h | h
  · go_enter Tryd.func10, Tryd.ntmps10
    go_wp2
    go_ret
    exact ⟨rfl, rfl⟩
  · have h' : ¬ code < 0 := by omega
    go_enter Tryd.func10, Tryd.ntmps10
    go_wp2
    go_ret
    exact ⟨rfl, rfl⟩

theorem impl_cw_in (k : Nat) (w : World) (hk : k < 15) (s : ByteArray) (hc : w.cell? ⟨0, k, none⟩ = some (.string s)) :
    Calls Tryd.prog 10 #[.int .i64 (k : Int)] w fun e w' => e = .returned (.string s) ∧ w' = w := by
  go_enter Tryd.func10, Tryd.ntmps10
  go_wp2
  go_ret
  exact ⟨rfl, rfl⟩

theorem law_out (code : Int) (w : World) (h : code < 0 ∨ 15 ≤ code) :
    Calls Tryd.prog 4 #[.int .i64 code] w fun e w' => e = .returned (.bool true) ∧ Below w.heap.size w w' := by
  have H : Hid (code < 0 ∨ 15 ≤ code) := h
  clear h
  go_enter Tryd.func4, Tryd.ntmps4
  go_wp2_with (first | (go_at_call 9; refine (spec_cw_out _ _ H.out).mono ?_; rintro e w' ⟨rfl, hb⟩) | (go_at_call 10; refine (impl_cw_out _ _ H.out).mono ?_; rintro e w'' ⟨rfl, rfl⟩))
  go_ret
  exact ⟨rfl, hb⟩

theorem law_in (k : Nat) (w : World) (hk : k < 15) (hg : 0 < w.heap.size) (hc : w.cell? ⟨0, k, none⟩ = some (.string (cwWords.getD k ⟨#[]⟩))) :
    Calls Tryd.prog 4 #[.int .i64 (k : Int)] w fun e w' => e = .returned (.bool true) ∧ Below w.heap.size w w' := by
  generalize hs : cwWords.getD k ⟨#[]⟩ = s at hc
  have H : Hid (cwWords.getD k ⟨#[]⟩ = s) := hs
  clear hs
  go_enter Tryd.func4, Tryd.ntmps4
  go_wp2_with (first | (go_at_call 9; refine (spec_cw_in _ _ hk).mono ?_; rw [H.out]; rintro e w' ⟨rfl, hb⟩) | (go_at_call 10; refine (impl_cw_in _ _ hk s ((hb.cell (p := ⟨0, k, none⟩) hg).trans hc)).mono ?_; rintro e w'' ⟨rfl, rfl⟩))
  go_ret
  exact ⟨rfl, hb⟩
end Go.Proofs.YtnpjnmkmjcpjmaaDoor
