/- The law's own comparison and marks of a list of numbers. -/
import Derived.Test.YtbjianmjdadehaaGreatDoorKaMark
import Derived.Test.YtbjianmjdadehaaGreatDoorKeA
import Derived.OwnWalk
set_option linter.unusedVariables false
namespace Go.Proofs.YtbjianmjdadehaaGreatDoor
open Go.RowKit

theorem own_any {w : World} {B : Nat} {e : TypeId} {size n : Nat} {v : Value} {xs : List Value} (h : w.ownsRow B e size v n xs) : (∃ a c, v = .slice a 0 c ∧ n = 0) ∨ ∃ g c, v = .slice (some ⟨g, 0, none⟩) n c := by
  rcases h.2 with ⟨rfl, rfl⟩ | ⟨g, cap, _, hv, _⟩
  · exact .inl ⟨_, _, rfl, rfl⟩
  · exact .inr ⟨g, cap, hv⟩
theorem own_late {w w' : World} {B : Nat} {e : TypeId} {size n : Nat} {v : Value} {xs : List Value} (h : w.ownsRow B e size v n xs) (hb : Below w.heap.size w w') : w'.ownsRow B e size v n xs := own_calm h fun k hk => hb.block k (h.lt k hk).2
theorem row_at {w : World} {B : Nat} {t : TypeId} {α : Type} {f : α → Value} {g cap : Nat} {xs : List α} (h : w.ownsRow B t 1 (.slice (some ⟨g, 0, none⟩) xs.length cap) xs.length (xs.map f)) (i : Nat) (hi : i < xs.length) :
    w.cell? ⟨g, i, none⟩ = some (f xs[i]) := by
  rw [h.cellAt _ (by omega)]; simp [hi]

set_option maxHeartbeats 4000000 in
theorem eq_ints (xs : List Int) (A B ga ca gb cb : Nat) (w : World) (hl : xs.length ≤ 1099511627776) (ha : w.ownsRow A 3 1 (.slice (some ⟨ga, 0, none⟩) xs.length ca) xs.length (xs.map (Value.int .i64))) (hb : w.ownsRow B 3 1 (.slice (some ⟨gb, 0, none⟩) xs.length cb) xs.length (xs.map (Value.int .i64))) :
    Calls Tryz.prog 13 #[.slice (some ⟨ga, 0, none⟩) xs.length ca, .slice (some ⟨gb, 0, none⟩) xs.length cb] w fun e w' => e = .returned (.bool true) ∧ Below w.heap.size w w' := by
  have HA := (show Hid (w.ownsRow _ _ _ _ _ _) from ha)
  have HB := (show Hid (w.ownsRow B _ _ _ _ _) from hb)
  clear ha hb
  go_enter Tryz.func13, Tryz.ntmps13
  go_wp2
  go_loopw [5] (fun i wr => ∃ k : Nat, k ≤ xs.length ∧ i = .int .i64 k ∧ Below w.heap.size w wr) (fun i _ => xs.length - (intOf i).toNat)
  case atStart => exact ⟨0, by omega, rfl, Below.refl _ _⟩
  case round =>
    obtain ⟨k, hk, rfl, hbw⟩ := hrel
    by_cases hlt : k < xs.length
    · have a0 := row_at (own_late HA.out hbw) k hlt
      have b0 := row_at (own_late HB.out hbw) k hlt
      generalize xs[k] = tk at *
      have hbb : (tk != tk) = false := by simp
      have hki : (k : Int) < (xs.length : Int) := by omega
      have HBD := hid_mk hbw.drew
      go_wp2
      go_region
      all_goals go_wp2
      all_goals exact ⟨⟨k + 1, by omega, by go_num, by first | exact hbw | exact HBD.out⟩, by simp [intOf]; omega⟩
    · go_wp2
      go_ret
      exact ⟨rfl, hbw⟩
theorem eq_ints_none (a b : Option Addr) (ca cb : Nat) (w : World) : Calls Tryz.prog 13 #[.slice a 0 ca, .slice b 0 cb] w fun e w' => e = .returned (.bool true) ∧ Below w.heap.size w w' := by
  go_enter Tryz.func13, Tryz.ntmps13
  go_wp2
  go_loop [5] (fun i => i = .int .i64 0) (fun _ => 0)
  case atStart => rfl
  case round =>
    subst hrel
    go_wp2
    go_ret
    exact ⟨rfl, Below.refl _ _⟩
theorem eq_ints_any (xs : List Int) (A B : Nat) (va vb : Value) (w : World) (hl : xs.length ≤ 1099511627776) (ha : w.ownsRow A 3 1 va xs.length (xs.map (Value.int .i64))) (hb : w.ownsRow B 3 1 vb xs.length (xs.map (Value.int .i64))) :
    Calls Tryz.prog 13 #[va, vb] w fun e w' => e = .returned (.bool true) ∧ Below w.heap.size w w' := by
  by_cases h0 : xs.length = 0
  · rcases own_any ha with ⟨a, ca, rfl, _⟩ | ⟨g, ca, rfl⟩ <;> rcases own_any hb with ⟨b, cb, rfl, _⟩ | ⟨g', cb, rfl⟩
    · exact eq_ints_none _ _ _ _ w
    · rw [h0]; exact eq_ints_none _ _ _ _ w
    · rw [h0]; exact eq_ints_none _ _ _ _ w
    · rw [h0]; exact eq_ints_none _ _ _ _ w
  · rcases own_any ha with ⟨_, _, _, h⟩ | ⟨g, ca, rfl⟩
    · exact absurd h h0
    rcases own_any hb with ⟨_, _, _, h⟩ | ⟨g', cb, rfl⟩
    · exact absurd h h0
    exact eq_ints xs A B g ca g' cb w hl ha hb

def intsM (i : Nat) : List Int := (List.range i).map fun (j : Nat) => ((j : Int) + 1)
theorem intsM_succ (i : Nat) : intsM (i + 1) = intsM i ++ [((i : Int) + 1)] := by simp [intsM, List.range_succ]
theorem intsM_len (i : Nat) : (intsM i).length = i := by simp [intsM]
theorem intsM_at (n j : Nat) (h : j < n) (h2 : j < (intsM n).length) : (intsM n)[j] = ((j : Int) + 1) := by simp [intsM]
theorem intsM_set (xs : List Int) (j : Nat) (hj : j < xs.length) : (((intsM j ++ xs.drop j).map (Value.int .i64)).set j ((Value.int .i64) (((j : Int) + 1)))) = (intsM (j + 1) ++ xs.drop (j + 1)).map (Value.int .i64) := by
  have h1 : intsM j ++ xs.drop j = intsM j ++ xs[j] :: xs.drop (j + 1) := by rw [List.drop_eq_getElem_cons hj]
  rw [h1, intsM_succ]
  have hl : ((intsM j).map (Value.int .i64)).length = j := by simp [intsM_len]
  simp only [List.map_append, List.map_cons, List.append_assoc, List.cons_append, List.nil_append]
  rw [List.set_append_right _ _ (by omega), hl, Nat.sub_self]
  rfl

set_option maxHeartbeats 4000000 in
theorem mark_ints (xs : List Int) (B g cap : Nat) (w : World) (hl : xs.length ≤ 1000000000) (hB : B ≤ w.heap.size) (h : w.ownsRow B 3 1 (.slice (some ⟨g, 0, none⟩) xs.length cap) xs.length (xs.map (Value.int .i64))) :
    Calls Tryz.prog 15 #[.slice (some ⟨g, 0, none⟩) xs.length cap, .int .i64 1] w fun e w' => e = .returned (.int .i64 ((xs.length + 1 : Nat) : Int)) ∧ w'.ownsRow B 3 1 (.slice (some ⟨g, 0, none⟩) xs.length cap) xs.length ((intsM xs.length).map (Value.int .i64)) ∧ Below B w w' := by
  have HO := (show Hid (w.ownsRow _ _ _ _ _ _) from h)
  have hgB := (h.lt g rfl).1
  clear h
  go_enter Tryz.func15, Tryz.ntmps15
  go_wp2
  go_loopw [1, 5] (fun k i wr => ∃ j : Nat, j ≤ xs.length ∧ k = .int .i64 ((j : Int) + 1) ∧ i = .int .i64 j ∧ Hid (wr.ownsRow B 3 1 (.slice (some ⟨g, 0, none⟩) xs.length cap) xs.length ((intsM j ++ xs.drop j).map (Value.int .i64))) ∧ Below B w wr) (fun _ i _ => xs.length - (intOf i).toNat)
  case atStart => exact ⟨0, by omega, rfl, rfl, by simpa [Hid, intsM] using HO.out, Below.refl _ _⟩
  case round =>
    obtain ⟨j, hj, rfl, rfl, ho, hb⟩ := hrel
    have hbz := hb.size
    by_cases hlt : j < xs.length
    · have hji : (j : Int) < (xs.length : Int) := by omega
      have hlen : ((intsM j ++ xs.drop j).map (Value.int .i64)).length = xs.length * 1 := ho.out.1
      have k0 : wr.cell? ⟨g, j, none⟩ = some (((intsM j ++ xs.drop j).map (Value.int .i64))[j]'(by omega)) := by rw [ho.out.cellAt _ (by omega), List.getElem?_eq_getElem]
      have f0 := ho.out.frozenAt j
      have o1 := (ho.out.stored j (.int .i64 ((j : Int) + 1))).1
      rw [intsM_set xs j hlt] at o1
      generalize ((intsM j ++ xs.drop j).map (Value.int .i64))[j]'(by omega) = z0 at k0
      have HO1 := (show Hid (World.ownsRow _ _ _ _ _ _ _) from o1)
      clear o1 ho hlen
      go_wp2
      exact ⟨⟨j + 1, by omega, by go_num, by go_num, HO1.out, hb.setCell (p := ⟨g, j, none⟩) hgB _⟩, by simp [intOf]; omega⟩
    · go_wp2
      go_ret
      have hjn : j = xs.length := by omega
      refine ⟨ret_int (by omega), ?_, hb⟩
      have := ho.out
      rw [hjn, List.drop_of_length_le (Nat.le_refl _), List.append_nil] at this
      exact this

set_option maxHeartbeats 4000000 in
theorem held_ints (n B g cap : Nat) (w : World) (hl : n ≤ 1000000000) (h : w.ownsRow B 3 1 (.slice (some ⟨g, 0, none⟩) n cap) n ((intsM n).map (Value.int .i64))) :
    Calls Tryz.prog 16 #[.slice (some ⟨g, 0, none⟩) n cap, .int .i64 1] w fun e w' => e = .returned (.int .i64 ((n + 1 : Nat) : Int)) ∧ Below w.heap.size w w' := by
  have h' : w.ownsRow B 3 1 (.slice (some ⟨g, 0, none⟩) (intsM n).length cap) (intsM n).length ((intsM n).map (Value.int .i64)) := by rw [intsM_len]; exact h
  have HO := (show Hid (w.ownsRow _ _ _ _ _ _) from h')
  clear h h'
  go_enter Tryz.func16, Tryz.ntmps16
  go_wp2
  go_loopw [1, 5] (fun k i wr => ∃ j : Nat, j ≤ n ∧ k = .int .i64 ((j : Int) + 1) ∧ i = .int .i64 j ∧ Below w.heap.size w wr) (fun _ i _ => n - (intOf i).toNat)
  case atStart => exact ⟨0, by omega, rfl, rfl, Below.refl _ _⟩
  case round =>
    obtain ⟨j, hj, rfl, rfl, hb⟩ := hrel
    by_cases hlt : j < n
    · have hji : (j : Int) < (n : Int) := by omega
      have k0 := row_at (own_late HO.out hb) j (by rw [intsM_len]; exact hlt)
      rw [intsM_at n j hlt] at k0
      have hbb : ((j : Int) + 1 != (j : Int) + 1) = false := by simp
      have HBD := hid_mk hb.drew
      go_wp2
      all_goals exact ⟨⟨j + 1, by omega, by go_num, by go_num, by first | exact hb | exact HBD.out⟩, by simp [intOf]; omega⟩
    · go_wp2
      go_ret
      exact ⟨ret_int (by omega), hb⟩

theorem mark_ints_none (a : Option Addr) (c : Nat) (w : World) : Calls Tryz.prog 15 #[.slice a 0 c, .int .i64 1] w fun e w' => e = .returned (.int .i64 1) ∧ w' = w := by
  go_enter Tryz.func15, Tryz.ntmps15
  go_wp2
  go_loop [1, 5] (fun k i => i = .int .i64 0 ∧ k = .int .i64 1) (fun _ _ => 0)
  case atStart => exact ⟨rfl, rfl⟩
  case round =>
    obtain ⟨rfl, rfl⟩ := hrel
    go_wp2
    go_ret
    exact ⟨rfl, rfl⟩
theorem held_ints_none (a : Option Addr) (c : Nat) (w : World) : Calls Tryz.prog 16 #[.slice a 0 c, .int .i64 1] w fun e w' => e = .returned (.int .i64 1) ∧ w' = w := by
  go_enter Tryz.func16, Tryz.ntmps16
  go_wp2
  go_loop [1, 5] (fun k i => i = .int .i64 0 ∧ k = .int .i64 1) (fun _ _ => 0)
  case atStart => exact ⟨rfl, rfl⟩
  case round =>
    obtain ⟨rfl, rfl⟩ := hrel
    go_wp2
    go_ret
    exact ⟨rfl, rfl⟩

theorem mark_ints_any (xs : List Int) (B : Nat) (v : Value) (w : World) (hl : xs.length ≤ 1000000000) (hB : B ≤ w.heap.size) (h : w.ownsRow B 3 1 v xs.length (xs.map (Value.int .i64))) :
    Calls Tryz.prog 15 #[v, .int .i64 1] w fun e w' => e = .returned (.int .i64 ((xs.length + 1 : Nat) : Int)) ∧ w'.ownsRow B 3 1 v xs.length ((intsM xs.length).map (Value.int .i64)) ∧ Below B w w' := by
  rcases own_any h with ⟨a, c, rfl, h0⟩ | ⟨g, c, rfl⟩
  · refine (mark_ints_none a c w).mono ?_
    rintro e w' ⟨rfl, rfl⟩
    refine ⟨by rw [h0]; rfl, ?_, Below.refl _ _⟩
    have : xs = [] := List.eq_nil_of_length_eq_zero h0
    subst this
    exact h
  · exact mark_ints xs B g c w hl hB h
theorem held_ints_any (n B : Nat) (v : Value) (w : World) (hl : n ≤ 1000000000) (h : w.ownsRow B 3 1 v n ((intsM n).map (Value.int .i64))) :
    Calls Tryz.prog 16 #[v, .int .i64 1] w fun e w' => e = .returned (.int .i64 ((n + 1 : Nat) : Int)) ∧ Below w.heap.size w w' := by
  rcases own_any h with ⟨a, c, rfl, h0⟩ | ⟨g, c, rfl⟩
  · refine (held_ints_none a c w).mono ?_
    rintro e w' ⟨rfl, rfl⟩
    exact ⟨by rw [h0]; rfl, Below.refl _ _⟩
  · exact held_ints n B g c w hl h
end Go.Proofs.YtbjianmjdadehaaGreatDoor
