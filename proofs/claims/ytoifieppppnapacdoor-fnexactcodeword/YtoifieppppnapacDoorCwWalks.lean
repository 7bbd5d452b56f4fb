/- The walks of CodeWord (impl and spec) and of the law FnExactCodeWord over them. -/
import Derived.Test.YtoifieppppnapacDoorProg
import Derived.WalkKit
import Derived.Below
import Derived.Outline
namespace Go.Proofs.YtoifieppppnapacDoor
open Go.RowKit

def cwWords : List ByteArray := [⟨#[111, 107]⟩, ⟨#[98, 97, 100]⟩, ⟨#[108, 111, 110, 103]⟩, ⟨#[102, 111, 114, 109]⟩, ⟨#[115, 121, 110, 116, 97, 120]⟩, ⟨#[110, 97, 109, 101]⟩, ⟨#[116, 119, 105, 99, 101]⟩, ⟨#[116, 121, 112, 101]⟩, ⟨#[99, 111, 117, 110, 116]⟩, ⟨#[114, 101, 115, 117, 108, 116]⟩, ⟨#[112, 108, 97, 99, 101]⟩, ⟨#[114, 97, 110, 103, 101]⟩, ⟨#[110, 111, 110, 101]⟩, ⟨#[109, 97, 110, 121]⟩, ⟨#[100, 101, 101, 112]⟩]

theorem cw_at (k : Nat) (hk : k < 15) (h : k < (cwWords.map Value.string).length) : (cwWords.map Value.string)[k] = .string (cwWords.getD k ⟨#[]⟩) := by
  have hl : k < cwWords.length := hk
  simp [List.getD, hl]

theorem spec_cw_out (code : Int) (w : World) (h : code < 0 ∨ 15 ≤ code) :
    Calls Tryd.prog 7 #[.int .i64 code] w fun e w' => e = .returned (.string ⟨#[]⟩) ∧ Below w.heap.size w w' := by
  rcases h with h | h
  · go_enter Tryd.func7, Tryd.ntmps7
    go_wp2
    go_ret
    exact ⟨rfl, (Below.refl _ _).alloc (Nat.le_refl _) _⟩
  · have h' : ¬ code < 0 := by omega
    go_enter Tryd.func7, Tryd.ntmps7
    go_wp2
    go_ret
    exact ⟨rfl, (Below.refl _ _).alloc (Nat.le_refl _) _⟩

theorem spec_cw_in (k : Nat) (w : World) (hk : k < 15) :
    Calls Tryd.prog 7 #[.int .i64 (k : Int)] w fun e w' => e = .returned (.string (cwWords.getD k ⟨#[]⟩)) ∧ Below w.heap.size w w' := by
  go_enter Tryd.func7, Tryd.ntmps7
  go_wp2
  go_ret
  exact ⟨congrArg Ending.returned (cw_at k hk hk), (Below.refl _ _).alloc (Nat.le_refl _) _⟩

theorem impl_cw_out (code : Int) (w : World) (h : code < 0 ∨ 15 ≤ code) :
    Calls Tryd.prog 8 #[.int .i64 code] w fun e w' => e = .returned (.string ⟨#[]⟩) ∧ w' = w := by
  rcases h with h | h
  · go_enter Tryd.func8, Tryd.ntmps8
    go_wp2
    go_ret
    exact ⟨rfl, rfl⟩
  · have h' : ¬ code < 0 := by omega
    go_enter Tryd.func8, Tryd.ntmps8
    go_wp2
    go_ret
    exact ⟨rfl, rfl⟩

theorem impl_cw_in (k : Nat) (w : World) (hk : k < 15) (s : ByteArray) (hc : w.cell? ⟨0, k, none⟩ = some (.string s)) :
    Calls Tryd.prog 8 #[.int .i64 (k : Int)] w fun e w' => e = .returned (.string s) ∧ w' = w := by
  go_enter Tryd.func8, Tryd.ntmps8
  go_wp2
  go_ret
  exact ⟨rfl, rfl⟩

theorem law_out (code : Int) (w : World) (h : code < 0 ∨ 15 ≤ code) :
    Calls Tryd.prog 4 #[.int .i64 code] w fun e w' => e = .returned (.bool true) ∧ Below w.heap.size w w' := by
  have H : Hid (code < 0 ∨ 15 ≤ code) := h
  clear h
  go_enter Tryd.func4, Tryd.ntmps4
  go_wp2_with (first | (go_at_call 7; refine (spec_cw_out _ _ H.out).mono ?_; rintro e w' ⟨rfl, hb⟩) | (go_at_call 8; refine (impl_cw_out _ _ H.out).mono ?_; rintro e w'' ⟨rfl, rfl⟩))
  go_ret
  exact ⟨rfl, hb⟩

theorem law_in (k : Nat) (w : World) (hk : k < 15) (hg : 0 < w.heap.size) (hc : w.cell? ⟨0, k, none⟩ = some (.string (cwWords.getD k ⟨#[]⟩))) :
    Calls Tryd.prog 4 #[.int .i64 (k : Int)] w fun e w' => e = .returned (.bool true) ∧ Below w.heap.size w w' := by
  generalize hs : cwWords.getD k ⟨#[]⟩ = s at hc
  have H : Hid (cwWords.getD k ⟨#[]⟩ = s) := hs
  clear hs
  go_enter Tryd.func4, Tryd.ntmps4
  go_wp2_with (first | (go_at_call 7; refine (spec_cw_in _ _ hk).mono ?_; rw [H.out]; rintro e w' ⟨rfl, hb⟩) | (go_at_call 8; refine (impl_cw_in _ _ hk s ((hb.cell (p := ⟨0, k, none⟩) hg).trans hc)).mono ?_; rintro e w'' ⟨rfl, rfl⟩))
  go_ret
  exact ⟨rfl, hb⟩
end Go.Proofs.YtoifieppppnapacDoor
