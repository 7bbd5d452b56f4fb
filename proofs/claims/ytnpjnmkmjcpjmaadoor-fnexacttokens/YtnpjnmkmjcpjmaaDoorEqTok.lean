/- The law's own comparison of two lists of tokens. -/
import Derived.Test.YtnpjnmkmjcpjmaaDoorSpLoop
import Derived.RegionTactic
import Derived.BigRegion
import Derived.Deep.RegionWith
import Derived.WalkSpells
import Derived.WalkSmall
set_option linter.unusedVariables false
namespace Go.Proofs.YtnpjnmkmjcpjmaaDoor
open Go.RowKit

theorem eq_tok (k : Int) (t : ByteArray) (p : Int) (w : World) : Calls Tryd.prog 30 #[.agg #[.int .i64 k, .string t, .int .i64 p], .agg #[.int .i64 k, .string t, .int .i64 p]] w fun e w' => e = .returned (.bool true) ∧ Below w.heap.size w w' := by
  go_enter Tryd.func30, Tryd.ntmps30
  go_wp2
  go_ret
  exact ⟨rfl, ((Below.refl _ _).alloc (Nat.le_refl _) _).alloc (by simp) _⟩

theorem flat_cells {w : World} {B g cap : Nat} {ts : List Tok} (h : w.ownsRow B 37 3 (.slice (some ⟨g, 0, none⟩) ts.length cap) ts.length (flat ts)) (i : Nat) (hi : i < ts.length) :
    w.cell? ⟨g, i * 3, none⟩ = some (.int .i64 ts[i].kind) ∧ w.cell? ⟨g, i * 3 + 1, none⟩ = some (.string ts[i].text) ∧ w.cell? ⟨g, i * 3 + 2, none⟩ = some (.int .i64 ts[i].place) := by
  have get : ∀ (ts : List Tok) (i : Nat) (hi : i < ts.length), (flat ts)[i * 3]? = some (.int .i64 ts[i].kind) ∧ (flat ts)[i * 3 + 1]? = some (.string ts[i].text) ∧ (flat ts)[i * 3 + 2]? = some (.int .i64 ts[i].place) := by
    intro ts
    induction ts with
    | nil => intro i hi; simp at hi
    | cons t ts ih =>
      intro i hi
      rw [flat, List.flatMap_cons, ← flat]
      cases i with
      | zero => exact ⟨rfl, rfl, rfl⟩
      | succ i =>
        have := ih i (by simpa using hi)
        have e1 : (i + 1) * 3 = i * 3 + 3 := by omega
        have e2 : (i + 1) * 3 + 1 = (i * 3 + 1) + 3 := by omega
        have e3 : (i + 1) * 3 + 2 = (i * 3 + 2) + 3 := by omega
        refine ⟨?_, ?_, ?_⟩
        · rw [e1]; simpa using this.1
        · rw [e2]; simpa using this.2.1
        · rw [e3]; simpa using this.2.2
  have hl := flat_len ts
  obtain ⟨a, b, c⟩ := get ts i hi
  exact ⟨by rw [h.cellAt _ (by omega)]; exact a, by rw [h.cellAt _ (by omega)]; exact b, by rw [h.cellAt _ (by omega)]; exact c⟩

set_option maxHeartbeats 4000000 in
set_option maxRecDepth 100000 in
theorem eq_toks (ts : List Tok) (A B ga ca gb cb : Nat) (w : World) (hl : ts.length ≤ 100000) (ha : w.ownsRow A 37 3 (.slice (some ⟨ga, 0, none⟩) ts.length ca) ts.length (flat ts)) (hb : w.ownsRow B 37 3 (.slice (some ⟨gb, 0, none⟩) ts.length cb) ts.length (flat ts)) :
    Calls Tryd.prog 15 #[.slice (some ⟨ga, 0, none⟩) ts.length ca, .slice (some ⟨gb, 0, none⟩) ts.length cb] w fun e w' => e = .returned (.bool true) ∧ Below w.heap.size w w' := by
  have HA := (show Hid (w.ownsRow _ _ _ _ _ _) from ha)
  have HB := (show Hid (w.ownsRow B _ _ _ _ _) from hb)
  clear ha hb
  go_enter Tryd.func15, Tryd.ntmps15
  go_wp2
  go_loopw [5] (fun i wr => ∃ k : Nat, k ≤ ts.length ∧ i = .int .i64 k ∧ Below w.heap.size w wr) (fun i _ => ts.length - (intOf i).toNat)
  case atStart => exact ⟨0, by omega, rfl, Below.refl _ _⟩
  case round =>
    obtain ⟨k, hk, rfl, hbw⟩ := hrel
    by_cases hlt : k < ts.length
    · obtain ⟨a0, a1, a2⟩ := flat_cells (own_later HA.out hbw) k hlt
      obtain ⟨b0, b1, b2⟩ := flat_cells (own_later HB.out hbw) k hlt
      generalize ts[k].kind = tk at *
      generalize ts[k].text = tt at *
      generalize (ts[k].place : Int) = tp at *
      go_wp2_with fail
      go_region_with (go_at_call 30; refine (eq_tok _ _ _ _).mono ?_; rintro e w1 ⟨rfl, hb1⟩)
      all_goals go_wp2
      all_goals exact ⟨⟨k + 1, by omega, by go_num, hbw.drew.trans (hb1.mono hbw.size)⟩, by simp [intOf]; omega⟩
    · go_wp2
      go_ret
      exact ⟨rfl, hbw⟩

theorem eq_none (a b : Option Addr) (ca cb : Nat) (w : World) : Calls Tryd.prog 15 #[.slice a 0 ca, .slice b 0 cb] w fun e w' => e = .returned (.bool true) ∧ Below w.heap.size w w' := by
  go_enter Tryd.func15, Tryd.ntmps15
  go_wp2
  go_loop [5] (fun i => i = .int .i64 0) (fun _ => 0)
  case atStart => rfl
  case round =>
    subst hrel
    go_wp2
    go_ret
    exact ⟨rfl, Below.refl _ _⟩

theorem own_any {w : World} {B : Nat} {e : TypeId} {size n : Nat} {v : Value} {xs : List Value} (h : w.ownsRow B e size v n xs) : (∃ a c, v = .slice a 0 c ∧ n = 0) ∨ ∃ g c, v = .slice (some ⟨g, 0, none⟩) n c := by
  rcases h.2 with ⟨rfl, rfl⟩ | ⟨g, cap, _, hv, _⟩
  · exact .inl ⟨_, _, rfl, rfl⟩
  · exact .inr ⟨g, cap, hv⟩
theorem eq_any (ts : List Tok) (A B : Nat) (va vb : Value) (w : World) (hl : ts.length ≤ 100000) (ha : w.ownsRow A 37 3 va ts.length (flat ts)) (hb : w.ownsRow B 37 3 vb ts.length (flat ts)) :
    Calls Tryd.prog 15 #[va, vb] w fun e w' => e = .returned (.bool true) ∧ Below w.heap.size w w' := by
  by_cases h0 : ts.length = 0
  · rcases own_any ha with ⟨a, ca, rfl, _⟩ | ⟨g, ca, rfl⟩ <;> rcases own_any hb with ⟨b, cb, rfl, _⟩ | ⟨g', cb, rfl⟩
    · exact eq_none _ _ _ _ w
    · rw [h0]; exact eq_none _ _ _ _ w
    · rw [h0]; exact eq_none _ _ _ _ w
    · rw [h0]; exact eq_none _ _ _ _ w
  · rcases own_any ha with ⟨_, _, _, h⟩ | ⟨g, ca, rfl⟩
    · exact absurd h h0
    rcases own_any hb with ⟨_, _, _, h⟩ | ⟨g', cb, rfl⟩
    · exact absurd h h0
    exact eq_toks ts A B g ca g' cb w hl ha hb
end Go.Proofs.YtnpjnmkmjcpjmaaDoor
