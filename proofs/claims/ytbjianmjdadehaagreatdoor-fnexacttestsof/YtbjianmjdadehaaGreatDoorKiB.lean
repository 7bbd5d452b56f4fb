/- The law's own comparison and marks of a list of texts. -/
import Derived.Test.YtbjianmjdadehaaGreatDoorKiA
import Derived.Test.YtbjianmjdadehaaGreatDoorKeA
import Derived.OwnWalk
set_option linter.unusedVariables false
namespace Go.Proofs.YtbjianmjdadehaaGreatDoor
open Go.RowKit

set_option maxHeartbeats 4000000 in
theorem eq_strs (xs : List ByteArray) (A B ga ca gb cb : Nat) (w : World) (hl : xs.length ≤ 1099511627776) (ha : w.ownsRow A 9 1 (.slice (some ⟨ga, 0, none⟩) xs.length ca) xs.length (xs.map Value.string)) (hb : w.ownsRow B 9 1 (.slice (some ⟨gb, 0, none⟩) xs.length cb) xs.length (xs.map Value.string)) :
    Calls Tryz.prog 19 #[.slice (some ⟨ga, 0, none⟩) xs.length ca, .slice (some ⟨gb, 0, none⟩) xs.length cb] w fun e w' => e = .returned (.bool true) ∧ Below w.heap.size w w' := by
  have HA := (show Hid (w.ownsRow _ _ _ _ _ _) from ha)
  have HB := (show Hid (w.ownsRow B _ _ _ _ _) from hb)
  clear ha hb
  go_enter Tryz.func19, Tryz.ntmps19
  go_wp2
  go_loopw [5] (fun i wr => ∃ k : Nat, k ≤ xs.length ∧ i = .int .i64 k ∧ Below w.heap.size w wr) (fun i _ => xs.length - (intOf i).toNat)
  case atStart => exact ⟨0, by omega, rfl, Below.refl _ _⟩
  case round =>
    obtain ⟨k, hk, rfl, hbw⟩ := hrel
    by_cases hlt : k < xs.length
    · have a0 := row_at (own_late HA.out hbw) k hlt
      have b0 := row_at (own_late HB.out hbw) k hlt
      generalize xs[k] = tk at *
      have hbs : (tk.toList != tk.toList) = false := by simp
      have hki : (k : Int) < (xs.length : Int) := by omega
      have HBD := hid_mk hbw.drew
      go_wp2
      go_region
      all_goals go_wp2
      all_goals exact ⟨⟨k + 1, by omega, by go_num, by first | exact hbw | exact HBD.out⟩, by simp [intOf]; omega⟩
    · go_wp2
      go_ret
      exact ⟨rfl, hbw⟩
theorem eq_strs_none (a b : Option Addr) (ca cb : Nat) (w : World) : Calls Tryz.prog 19 #[.slice a 0 ca, .slice b 0 cb] w fun e w' => e = .returned (.bool true) ∧ Below w.heap.size w w' := by
  go_enter Tryz.func19, Tryz.ntmps19
  go_wp2
  go_loop [5] (fun i => i = .int .i64 0) (fun _ => 0)
  case atStart => rfl
  case round =>
    subst hrel
    go_wp2
    go_ret
    exact ⟨rfl, Below.refl _ _⟩
theorem eq_strs_any (xs : List ByteArray) (A B : Nat) (va vb : Value) (w : World) (hl : xs.length ≤ 1099511627776) (ha : w.ownsRow A 9 1 va xs.length (xs.map Value.string)) (hb : w.ownsRow B 9 1 vb xs.length (xs.map Value.string)) :
    Calls Tryz.prog 19 #[va, vb] w fun e w' => e = .returned (.bool true) ∧ Below w.heap.size w w' := by
  by_cases h0 : xs.length = 0
  · rcases own_any ha with ⟨a, ca, rfl, _⟩ | ⟨g, ca, rfl⟩ <;> rcases own_any hb with ⟨b, cb, rfl, _⟩ | ⟨g', cb, rfl⟩
    · exact eq_strs_none _ _ _ _ w
    · rw [h0]; exact eq_strs_none _ _ _ _ w
    · rw [h0]; exact eq_strs_none _ _ _ _ w
    · rw [h0]; exact eq_strs_none _ _ _ _ w
  · rcases own_any ha with ⟨_, _, _, h⟩ | ⟨g, ca, rfl⟩
    · exact absurd h h0
    rcases own_any hb with ⟨_, _, _, h⟩ | ⟨g', cb, rfl⟩
    · exact absurd h h0
    exact eq_strs xs A B g ca g' cb w hl ha hb

def strsM (i : Nat) : List ByteArray := (List.range i).map fun (j : Nat) => mtext (j + 1)
theorem strsM_succ (i : Nat) : strsM (i + 1) = strsM i ++ [mtext (i + 1)] := by simp [strsM, List.range_succ]
theorem strsM_len (i : Nat) : (strsM i).length = i := by simp [strsM]
theorem strsM_at (n j : Nat) (h : j < n) (h2 : j < (strsM n).length) : (strsM n)[j] = mtext (j + 1) := by simp [strsM]
theorem strsM_set (xs : List ByteArray) (j : Nat) (hj : j < xs.length) : (((strsM j ++ xs.drop j).map Value.string).set j (Value.string (mtext (j + 1)))) = (strsM (j + 1) ++ xs.drop (j + 1)).map Value.string := by
  have h1 : strsM j ++ xs.drop j = strsM j ++ xs[j] :: xs.drop (j + 1) := by rw [List.drop_eq_getElem_cons hj]
  rw [h1, strsM_succ]
  have hl : ((strsM j).map Value.string).length = j := by simp [strsM_len]
  simp only [List.map_append, List.map_cons, List.append_assoc, List.cons_append, List.nil_append]
  rw [List.set_append_right _ _ (by omega), hl, Nat.sub_self]
  rfl

set_option maxHeartbeats 4000000 in
theorem mark_strs (xs : List ByteArray) (B g cap : Nat) (w : World) (hl : xs.length ≤ 1000000000) (hB : B ≤ w.heap.size) (h : w.ownsRow B 9 1 (.slice (some ⟨g, 0, none⟩) xs.length cap) xs.length (xs.map Value.string)) :
    Calls Tryz.prog 20 #[.slice (some ⟨g, 0, none⟩) xs.length cap, .int .i64 1] w fun e w' => e = .returned (.int .i64 ((xs.length + 1 : Nat) : Int)) ∧ w'.ownsRow B 9 1 (.slice (some ⟨g, 0, none⟩) xs.length cap) xs.length ((strsM xs.length).map Value.string) ∧ Below B w w' := by
  have HO := (show Hid (w.ownsRow _ _ _ _ _ _) from h)
  have hgB := (h.lt g rfl).1
  clear h
  go_enter Tryz.func20, Tryz.ntmps20
  go_wp2
  go_loopw [1, 5] (fun k i wr => ∃ j : Nat, j ≤ xs.length ∧ k = .int .i64 ((j : Int) + 1) ∧ i = .int .i64 j ∧ Hid (wr.ownsRow B 9 1 (.slice (some ⟨g, 0, none⟩) xs.length cap) xs.length ((strsM j ++ xs.drop j).map Value.string)) ∧ Below B w wr) (fun _ i _ => xs.length - (intOf i).toNat)
  case atStart => exact ⟨0, by omega, rfl, rfl, by simpa [Hid, strsM] using HO.out, Below.refl _ _⟩
  case round =>
    obtain ⟨j, hj, rfl, rfl, ho, hb⟩ := hrel
    have hbz := hb.size
    by_cases hlt : j < xs.length
    · have hji : (j : Int) < (xs.length : Int) := by omega
      have hlen : ((strsM j ++ xs.drop j).map Value.string).length = xs.length * 1 := ho.out.1
      have HM := hid_mk (strsM_set xs j hlt)
      have HO0 := ho
      have hgl : g < wr.heap.size := (ho.out.lt g rfl).2
      clear ho hlen
      go_wp2_with (go_at_call 32; refine (mark_at _ (j + 1) (by omega) (by omega) (by omega) _).mono ?_; rintro e w1 ⟨rfl, hb1⟩; have o2 := own_late HO0.out hb1; have hlen : ((strsM j ++ xs.drop j).map Value.string).length = xs.length * 1 := o2.1; have k1 : w1.cell? ⟨g, j, none⟩ = some (((strsM j ++ xs.drop j).map Value.string)[j]'(by omega)) := (by rw [o2.cellAt _ (by omega), List.getElem?_eq_getElem]); have f1 := o2.frozenAt j; have HO2 := (show Hid (w1.ownsRow _ _ _ _ _ _) from o2); clear o2; generalize ((strsM j ++ xs.drop j).map Value.string)[j]'(by omega) = z1 at k1; have hz1 := hb1.size; clear hlen)
      have o4 := (HO2.out.stored j (.string (mtext (j + 1)))).1
      rw [HM.out] at o4
      exact ⟨⟨j + 1, by omega, by go_num, by go_num, o4, (hb.trans (hb1.mono (by omega))).setCell (p := ⟨g, j, none⟩) hgB _⟩, by simp [intOf]; omega⟩
    · go_wp2
      go_ret
      have hjn : j = xs.length := by omega
      refine ⟨ret_int (by omega), ?_, hb⟩
      have := ho.out
      rw [hjn, List.drop_of_length_le (Nat.le_refl _), List.append_nil] at this
      exact this

set_option maxHeartbeats 4000000 in
theorem held_strs (n B g cap : Nat) (w : World) (hl : n ≤ 1000000000) (h : w.ownsRow B 9 1 (.slice (some ⟨g, 0, none⟩) n cap) n ((strsM n).map Value.string)) :
    Calls Tryz.prog 21 #[.slice (some ⟨g, 0, none⟩) n cap, .int .i64 1] w fun e w' => e = .returned (.int .i64 ((n + 1 : Nat) : Int)) ∧ Below w.heap.size w w' := by
  have h' : w.ownsRow B 9 1 (.slice (some ⟨g, 0, none⟩) (strsM n).length cap) (strsM n).length ((strsM n).map Value.string) := by rw [strsM_len]; exact h
  have HO := (show Hid (w.ownsRow _ _ _ _ _ _) from h')
  clear h h'
  go_enter Tryz.func21, Tryz.ntmps21
  go_wp2
  go_loopw [1, 5] (fun k i wr => ∃ j : Nat, j ≤ n ∧ k = .int .i64 ((j : Int) + 1) ∧ i = .int .i64 j ∧ Below w.heap.size w wr) (fun _ i _ => n - (intOf i).toNat)
  case atStart => exact ⟨0, by omega, rfl, rfl, Below.refl _ _⟩
  case round =>
    obtain ⟨j, hj, rfl, rfl, hb⟩ := hrel
    by_cases hlt : j < n
    · have hji : (j : Int) < (n : Int) := by omega
      have k0 := row_at (own_late HO.out hb) j (by rw [strsM_len]; exact hlt)
      rw [strsM_at n j hlt] at k0
      have hgl : g < wr.heap.size := ((own_late HO.out hb).lt g rfl).2
      generalize hx : mtext (j + 1) = x at k0
      have HX : Hid (mtext (j + 1) = x) := hx
      clear hx
      have hbb : (x.toList != x.toList) = false := by simp
      go_wp2_with fail
      go_region_with (go_at_call 32; refine (mark_at _ (j + 1) (by omega) (by omega) (by omega) _).mono ?_; rw [HX.out]; rintro e w1 ⟨rfl, hb1⟩; have k1' : w1.cell? ⟨g, j, none⟩ = some (.string x) := (hb1.cell (p := ⟨g, j, none⟩) hgl).trans k0)
      all_goals go_wp2
      all_goals exact ⟨⟨j + 1, by omega, by go_num, by go_num, hb.drew.trans (hb1.mono hb.size)⟩, by simp [intOf]; omega⟩
    · go_wp2
      go_ret
      exact ⟨ret_int (by omega), hb⟩

theorem mark_strs_none (a : Option Addr) (c : Nat) (w : World) : Calls Tryz.prog 20 #[.slice a 0 c, .int .i64 1] w fun e w' => e = .returned (.int .i64 1) ∧ w' = w := by
  go_enter Tryz.func20, Tryz.ntmps20
  go_wp2
  go_loop [1, 5] (fun k i => i = .int .i64 0 ∧ k = .int .i64 1) (fun _ _ => 0)
  case atStart => exact ⟨rfl, rfl⟩
  case round =>
    obtain ⟨rfl, rfl⟩ := hrel
    go_wp2
    go_ret
    exact ⟨rfl, rfl⟩
theorem held_strs_none (a : Option Addr) (c : Nat) (w : World) : Calls Tryz.prog 21 #[.slice a 0 c, .int .i64 1] w fun e w' => e = .returned (.int .i64 1) ∧ w' = w := by
  go_enter Tryz.func21, Tryz.ntmps21
  go_wp2
  go_loop [1, 5] (fun k i => i = .int .i64 0 ∧ k = .int .i64 1) (fun _ _ => 0)
  case atStart => exact ⟨rfl, rfl⟩
  case round =>
    obtain ⟨rfl, rfl⟩ := hrel
    go_wp2
    go_ret
    exact ⟨rfl, rfl⟩

theorem mark_strs_any (xs : List ByteArray) (B : Nat) (v : Value) (w : World) (hl : xs.length ≤ 1000000000) (hB : B ≤ w.heap.size) (h : w.ownsRow B 9 1 v xs.length (xs.map Value.string)) :
    Calls Tryz.prog 20 #[v, .int .i64 1] w fun e w' => e = .returned (.int .i64 ((xs.length + 1 : Nat) : Int)) ∧ w'.ownsRow B 9 1 v xs.length ((strsM xs.length).map Value.string) ∧ Below B w w' := by
  rcases own_any h with ⟨a, c, rfl, h0⟩ | ⟨g, c, rfl⟩
  · refine (mark_strs_none a c w).mono ?_
    rintro e w' ⟨rfl, rfl⟩
    refine ⟨by rw [h0]; rfl, ?_, Below.refl _ _⟩
    have : xs = [] := List.eq_nil_of_length_eq_zero h0
    subst this
    exact h
  · exact mark_strs xs B g c w hl hB h
theorem held_strs_any (n B : Nat) (v : Value) (w : World) (hl : n ≤ 1000000000) (h : w.ownsRow B 9 1 v n ((strsM n).map Value.string)) :
    Calls Tryz.prog 21 #[v, .int .i64 1] w fun e w' => e = .returned (.int .i64 ((n + 1 : Nat) : Int)) ∧ Below w.heap.size w w' := by
  rcases own_any h with ⟨a, c, rfl, h0⟩ | ⟨g, c, rfl⟩
  · refine (held_strs_none a c w).mono ?_
    rintro e w' ⟨rfl, rfl⟩
    exact ⟨by rw [h0]; rfl, Below.refl _ _⟩
  · exact held_strs n B g c w hl h
end Go.Proofs.YtbjianmjdadehaaGreatDoor
