/- The contract of the specification's CodeWord. -/
import Derived.Test.YtnpjnmkmjcpjmaaDoorProg
import Derived.WalkKit
import Derived.Below
import Derived.Outline
namespace Go.Proofs.YtnpjnmkmjcpjmaaDoor
open Go.RowKit

def cwWords : List ByteArray := [⟨#[111, 107]⟩, ⟨#[98, 97, 100]⟩, ⟨#[108, 111, 110, 103]⟩, ⟨#[102, 111, 114, 109]⟩, ⟨#[115, 121, 110, 116, 97, 120]⟩, ⟨#[110, 97, 109, 101]⟩, ⟨#[116, 119, 105, 99, 101]⟩, ⟨#[116, 121, 112, 101]⟩, ⟨#[99, 111, 117, 110, 116]⟩, ⟨#[114, 101, 115, 117, 108, 116]⟩, ⟨#[112, 108, 97, 99, 101]⟩, ⟨#[114, 97, 110, 103, 101]⟩, ⟨#[110, 111, 110, 101]⟩, ⟨#[109, 97, 110, 121]⟩, ⟨#[100, 101, 101, 112]⟩]

theorem cw_at (k : Nat) (hk : k < 15) (h : k < (cwWords.map Value.string).length) : (cwWords.map Value.string)[k] = .string (cwWords.getD k ⟨#[]⟩) := by
  have hl : k < cwWords.length := hk
  simp [List.getD, hl]

theorem spec_cw_out (code : Int) (w : World) (h : code < 0 ∨ 15 ≤ code) :
    Calls Tryd.prog 9 #[.int .i64 code] w fun e w' => e = .returned (.string ⟨#[]⟩) ∧ Below w.heap.size w w' := by
  rcases h with h | h
  · go_enter Tryd.func9, Tryd.ntmps9
    go_wp2
    go_ret
    exact ⟨rfl, (Below.refl _ _).alloc (Nat.le_refl _) _⟩
  · have h' : ¬ code < 0 := by omega
    go_enter Tryd.func9, Tryd.ntmps9
    go_wp2
    go_ret
    exact ⟨rfl, (Below.refl _ _).alloc (Nat.le_refl _) _⟩

theorem spec_cw_in (k : Nat) (w : World) (hk : k < 15) :
    Calls Tryd.prog 9 #[.int .i64 (k : Int)] w fun e w' => e = .returned (.string (cwWords.getD k ⟨#[]⟩)) ∧ Below w.heap.size w w' := by
  go_enter Tryd.func9, Tryd.ntmps9
  go_wp2
  go_ret
  exact ⟨congrArg Ending.returned (cw_at k hk hk), (Below.refl _ _).alloc (Nat.le_refl _) _⟩

end Go.Proofs.YtnpjnmkmjcpjmaaDoor
