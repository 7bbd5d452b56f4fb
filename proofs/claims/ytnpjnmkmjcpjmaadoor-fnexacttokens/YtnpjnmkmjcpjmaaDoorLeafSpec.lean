/- The contracts of the specification's small functions: l01Ends, l00Number, l01Ops, l01Op. -/
import Derived.Test.YtnpjnmkmjcpjmaaDoorLex
import Derived.WalkSpells
import Derived.Deep.Light
import Derived.Deep.QuietTactic
import Derived.BigQuiet
namespace Go.Proofs.YtnpjnmkmjcpjmaaDoor
open Go.RowKit

theorem strRow_two (w : World) (o : Obj) (ss : List ByteArray) (t : TypeId) : StrRow ((w.alloc o).alloc (.cells (ss.map Value.string).toArray t)) (w.heap.size + 1) ss := by
  have := strRow_new (w.alloc o) ss t
  rwa [World.size_alloc] at this

set_option maxHeartbeats 400000 in
set_option maxRecDepth 100000 in
theorem spec_ends (k : Int) (t : ByteArray) (p : Int) (w : World) :
    Calls Tryd.prog 24 #[.agg #[.int .i64 k, .string t, .int .i64 p]] w fun e w' => e = .returned (.bool (endB k t)) ∧ Below w.heap.size w w' := by
  by_cases h1 : k = 1
  · subst h1
    go_enter Tryd.func24, Tryd.ntmps24
    go_wp2
    go_ret
    exact ⟨ret_bool (by simp [endB]), (Below.refl _ _).alloc (Nat.le_refl _) _⟩
  by_cases h2 : k = 2
  · subst h2
    go_enter Tryd.func24, Tryd.ntmps24
    go_wp2
    go_ret
    exact ⟨ret_bool (by simp [endB]), (Below.refl _ _).alloc (Nat.le_refl _) _⟩
  by_cases h3 : k = 3
  · subst h3
    clear h1 h2
    have HE : Hid (endB 3 t = hasB ekWords t) := by simp [Hid, endB]
    go_enter Tryd.func24, Tryd.ntmps24
    go_wp2_with (go_at_call 19; refine (has_any ekWords _ _ 7 _ (strRow_two w _ ekWords _) rfl (by omega)).mono ?_; rintro e w2 ⟨rfl, rfl⟩)
    go_ret
    exact ⟨ret_bool HE.out.symm, ((Below.refl _ _).alloc (Nat.le_refl _) _).alloc (by simp) _⟩
  by_cases h4 : k = 4
  · subst h4
    clear h1 h2 h3
    have HE : Hid (endB 4 t = hasB eoWords t) := by simp [Hid, endB]
    go_enter Tryd.func24, Tryd.ntmps24
    go_wp2_with (go_at_call 19; refine (has_any eoWords _ _ 4 _ (strRow_two w _ eoWords _) rfl (by omega)).mono ?_; rintro e w2 ⟨rfl, rfl⟩)
    go_ret
    exact ⟨ret_bool HE.out.symm, ((Below.refl _ _).alloc (Nat.le_refl _) _).alloc (by simp) _⟩
  · have e1 : (k == 1) = false := by simp [h1]
    have e2 : (k == 2) = false := by simp [h2]
    have e3 : (k == 3) = false := by simp [h3]
    have e4 : (k == 4) = false := by simp [h4]
    have HE : Hid (endB k t = false) := by simp [Hid, endB, h1, h2, h3, h4]
    clear h1 h2 h3 h4
    go_enter Tryd.func24, Tryd.ntmps24
    go_wp2
    go_ret
    exact ⟨ret_bool HE.out.symm, (Below.refl _ _).alloc (Nat.le_refl _) _⟩

theorem ops_any (w : World) : Calls Tryd.prog 33 #[] w fun e w' => e = .returned (.slice (some ⟨w.heap.size, 0, none⟩) 25 25) ∧ Below w.heap.size w w' ∧ StrRow w' w.heap.size sgWords ∧ w.heap.size < w'.heap.size := by
  go_enter Tryd.func33, Tryd.ntmps33
  go_wp2
  go_ret
  exact ⟨rfl, (Below.refl _ _).alloc (Nat.le_refl _) _, strRow_new w sgWords 9, by simp⟩

set_option maxHeartbeats 1000000 in
set_option maxRecDepth 100000 in
theorem spec_num (x : ByteArray) (w : World) (hx : x.size ≤ 65536) (h0 : 0 < x.size) (hd0 : digitB x[0].toNat = true) :
    Calls Tryd.prog 27 #[.string x] w fun e w' => (∃ v : Int, e = .returned (.tuple #[.int .i64 v, .bool (numT x.data.toList)])) ∧ w' = w := by
  have h45 : ((x[0].toNat : Int) == 45) = false := by
    simp only [beq_eq_false_iff_ne, ne_eq]
    intro e
    have : x[0].toNat = 45 := by omega
    rw [this] at hd0; revert hd0; decide
  have hs0 : ((x.size : Int) == 0) = false := beq_eq_false_iff_ne.2 (by omega)
  have hxl : x.data.toList.length = x.size := rfl
  have hh : x.data.toList.headD 0 = x[0] := by
    cases hl : x.data.toList with
    | nil => rw [hl] at hxl; simp at hxl; omega
    | cons a l =>
      have h00 : 0 < x.data.toList.length := by rw [hl]; simp
      have : x.data.toList[0]'h00 = a := by simp [hl]
      show a = x.data[0]
      rw [← this]; rfl
  have HN : Hid (numT x.data.toList = (decide (x.size ≤ 18) && (!(decide (1 < x.size) && decide (x[0].toNat = 48)) && x.data.toList.all fun b => digitB b.toNat))) := by
    unfold Hid numT; rw [hh, hxl]
  clear hh hd0 hxl
  generalize numT x.data.toList = r at *
  by_cases h18 : 18 < x.size
  · have HF : Hid (r = false) := by unfold Hid; rw [HN.out]; simp; omega
    go_enter Tryd.func27, Tryd.ntmps27
    go_wp2
    go_ret2
    exact ⟨⟨0, ret_two rfl (by rw [HF.out]; rfl)⟩, rfl⟩
  by_cases hz : 1 < x.size ∧ x[0].toNat = 48
  · obtain ⟨h1, h48⟩ := hz
    have HF : Hid (r = false) := by unfold Hid; rw [HN.out]; simp [h1, h48]
    have h48' : ((x[0].toNat : Int) == 48) = true := by simp; omega
    clear h48
    go_enter Tryd.func27, Tryd.ntmps27
    go_wp2
    go_ret2
    exact ⟨⟨0, ret_two rfl (by rw [HF.out]; rfl)⟩, rfl⟩
  have HR : Hid (r = x.data.toList.all fun b => digitB b.toNat) := by
    unfold Hid; rw [HN.out]
    have : x.size ≤ 18 := by omega
    have h2 : (decide (1 < x.size) && decide (x[0].toNat = 48)) = false := by
      rw [Bool.and_eq_false_iff]
      by_cases h1 : 1 < x.size
      · exact .inr (decide_eq_false fun e => hz ⟨h1, e⟩)
      · exact .inl (decide_eq_false h1)
    rw [h2]; simp [this]
  clear HN
  have hend : Hid ((∀ b ∈ x.data.toList, digitB b.toNat = true) → r = true) := fun ha => by
    rw [HR.out]; exact List.all_eq_true.2 ha
  have hno : Hid (∀ k : Nat, ∀ h : k < x.size, digitB x[k].toNat = false → r = false) := fun k hk hd => by
    rw [HR.out, Bool.eq_false_iff]
    intro ha
    have := List.all_eq_true.1 ha x[k] (List.getElem_mem (l := x.data.toList) (by simpa using hk))
    rw [hd] at this; cases this
  clear HR
  have hz1 : ((x[0].toNat : Int) == 48) = false ∨ (((x[0].toNat : Int) == 48) = true ∧ ¬ 1 < x.size) := by
    by_cases h48 : x[0].toNat = 48
    · exact .inr ⟨by simp; omega, fun h1 => hz ⟨h1, h48⟩⟩
    · exact .inl (by simp; omega)
  clear hz
  rcases hz1 with hz1 | ⟨hz1, hz2⟩
  all_goals
    go_enter Tryd.func27, Tryd.ntmps27
    go_wp2
    go_loop [5, 6] (fun v i => ∃ (k : Nat) (n : Int), k ≤ x.size ∧ i = .int .i64 k ∧ v = .int .i64 n ∧ Hid (∀ b ∈ x.data.toList.take k, digitB b.toNat = true)) (fun _ i => x.size - (intOf i).toNat)
    case atStart => exact ⟨0, 0, Nat.zero_le _, rfl, rfl, by simp [Hid]⟩
    case round =>
      obtain ⟨k, n, hk, rfl, rfl, hall⟩ := hrel
      by_cases hlt : k < x.size
      · obtain ⟨c, hc⟩ : ∃ c : Int, (x[k].toNat : Int) = c := ⟨_, rfl⟩
        have hdc : Hid (digitB c = digitB x[k].toNat) := by unfold Hid; rw [hc]
        have hb1 : c < 256 := by rw [← hc]; have := x[k].toNat_lt; omega
        have hb0 : 0 ≤ c := by rw [← hc]; omega
        by_cases hd : 48 ≤ c ∧ c ≤ 57
        · have HG : Hid (∀ b ∈ x.data.toList.take (k + 1), digitB b.toNat = true) := fun b hm => by
            rw [take_snoc x k hlt, List.mem_append] at hm
            rcases hm with hm | hm
            · exact hall.out b hm
            · simp at hm; rw [hm, ← hdc.out]; unfold digitB; simp; omega
          obtain ⟨hd1, hd2⟩ := hd
          go_wp2
          all_goals
            go_round
            case rel => exact ⟨k + 1, _, by omega, by go_num, rfl, HG⟩
            case measure => simp [intOf]; omega
        · have HF : Hid (r = false) := hno.out k hlt (by rw [← hdc.out]; unfold digitB; simp; omega)
          by_cases h48 : 48 ≤ c
          · have h57 : 57 < c := by omega
            clear hd
            go_wp2
            go_ret2
            exact ⟨⟨0, ret_two rfl (by rw [HF.out]; rfl)⟩, rfl⟩
          · clear hd
            go_wp2
            go_ret2
            exact ⟨⟨0, ret_two rfl (by rw [HF.out]; rfl)⟩, rfl⟩
      · have HF : Hid (r = true) := hend.out (fun b hb => hall.out b (by rw [List.take_of_length_le (show x.data.toList.length ≤ k from by show x.size ≤ k; omega)]; exact hb))
        go_wp2
        go_ret2
        exact ⟨⟨_, ret_two rfl (by rw [HF.out]; rfl)⟩, rfl⟩
end Go.Proofs.YtnpjnmkmjcpjmaaDoor
