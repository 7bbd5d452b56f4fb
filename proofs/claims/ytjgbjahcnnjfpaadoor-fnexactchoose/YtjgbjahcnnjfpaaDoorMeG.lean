/- The program's and the specification's WovenOK and Picks: both tell the same. -/
import Derived.Test.YtjgbjahcnnjfpaaDoorMeE
import Derived.Test.YtjgbjahcnnjfpaaDoorMeF
import Derived.Test.YtjgbjahcnnjfpaaDoorMbI
import Derived.Test.YtjgbjahcnnjfpaaDoorMcB
set_option linter.unusedVariables false
namespace Go.Proofs.YtjgbjahcnnjfpaaDoor
open Go.RowKit

def wovC (T : Nd) : Int := if wovB T = true then 0 else 1
theorem gd_right {T : Nd} (hc : T.cost ≤ 1048576) (h : ¬ rightT T 1 = -1) : GdT T := by
  have hok := ((right_runs T 0 1 (by omega)).1).2 h
  refine gd_of T 0 fun p hp hk => ?_
  obtain ⟨y, y1, y2, y3⟩ := okL_fit _ 1 (by omega) hok p hp hk
  have h1 := lens_pre T 0
  have := T.size_cost
  exact ⟨y, y1, by omega, y3⟩
theorem wov_parts {T : Nd} (h : wovB T = true) : ¬ rightT T 1 = -1 ∧ rightT T 1 ≤ 401 := by
  unfold wovB at h
  simp only [Bool.and_eq_true, decide_eq_true_eq] at h
  exact ⟨h.2.1, h.2.2.1⟩
theorem wov_ways {T : Nd} (h : wovB T = true) : wovN T = waysT T ∧ 0 ≤ waysT T ∧ waysT T ≤ 400 := by
  obtain ⟨h1, h2⟩ := wov_parts h
  have h3 := right_ways T 1 (by omega) h1
  have h4 := right_ok T 1 (by omega)
  have h5 : wovN T = rightT T 1 - 1 := by unfold wovN; rw [if_pos h]
  rcases h4 with h4 | h4
  · exact absurd h4 h1
  · exact ⟨by omega, by omega, by omega⟩

set_option maxHeartbeats 4000000 in
theorem spec_woven (T : Nd) (w : World) (v : Value) (hi : Nat) (hf : T.Fine) (hhi : hi ≤ w.heap.size) (hr : Row 0 hi w T v) (hc : T.cost ≤ 1048576) :
    Calls Tryd.prog 13 #[T.val v] w fun e w' => e = .returned (.bool (wovB T)) ∧ Below w.heap.size w w' := by
  have hsc := T.size_cost
  have HLF := hid_mk (fun (W : World) (hb : Below w.heap.size w W) => left_any T W 6000 v hi hf (Nat.le_trans hhi hb.size) (row_below hb hhi hr) (by omega))
  have HRG := hid_mk (fun (W : World) (hb : Below w.heap.size w W) => rightS_any T W v hi 1 hf (Nat.le_trans hhi hb.size) (row_below hb hhi hr) hc (by omega) (by omega))
  have HCH := hid_mk (fun (h : ¬ rightT T 1 = -1) (W : World) (hb : Below w.heap.size w W) => chooseS_any 0 (by omega) (by omega) T W v hi hf (Nat.le_trans hhi hb.size) (row_below hb hhi hr) hc (gd_right hc h))
  obtain ⟨sc1, sc2, sc3⟩ := choose_sub 0 T
  have HTR := hid_mk (fun (W : World) (u : Value) (hb : Row 0 W.heap.size W (chooseT 0 T) u) => spec_tree (chooseT 0 T) W u W.heap.size (sc3 hf) (Nat.le_refl _) hb)
  have HBIG := hid_mk (@wov_big T)
  have HMANY := hid_mk (@wov_many T)
  have HTRE := hid_mk (@wov_tree T)
  have HYES := hid_mk (@wov_yes T)
  have HSTU : Hid (rightT T 1 = -1 → wovB T = false) := fun h => by unfold wovB; rw [h]; simp
  have HMB : Hid (mostB T 6000 = decide ((T.size : Int) ≤ 6000)) := rfl
  have hro := right_ok T 1 (by omega)
  obtain ⟨a, cap, rfl, hcap, hq⟩ := row_eq.1 hr
  have HB : ∀ a : Obj, Hid (Below w.heap.size w (w.alloc a)) := fun a => (Below.refl _ _).alloc (Nat.le_refl _) _
  unfold Nd.val at HLF HRG HCH HTR
  unfold Nd.val
  clear hr hf hq hcap sc1 sc2 sc3
  rw [tree_one] at HTRE HYES
  by_cases hsz : T.size ≤ 6000
  case neg =>
    have HN := hid_mk (HBIG.out (by rw [HMB.out, decide_eq_false]; omega))
    have hl : left' T.size 6000 = -1 := by unfold left'; rw [if_neg hsz]
    rw [hl] at HLF
    clear hl hsz hro
    go_enter Tryd.func13, Tryd.ntmps13
    go_wp2_with (go_at_call 29; refine (HLF.out _ (HB _).out).mono ?_; rintro e w1 ⟨rfl, hb1⟩; have HB1 := hid_mk ((HB _).out.trans (hb1.mono (by simp))); clear hb1)
    go_ret
    exact ⟨ret_bool HN.out.symm, HB1.out⟩
  have hl : left' T.size 6000 = ((6000 - T.size : Nat) : Int) := by unfold left'; rw [if_pos hsz]
  have HMO : Hid (mostB T 6000 = true) := by unfold Hid; rw [HMB.out, decide_eq_true]; omega
  rw [hl] at HLF
  have hl0 : (0 : Int) ≤ ((6000 - T.size : Nat) : Int) := by omega
  clear hl
  generalize hW0 : w.alloc (.cells #[.int .i64 T.kind, .int .i64 T.num, .string T.name, .slice a T.len cap] 37) = W0
  have HB0 : Hid (Below w.heap.size w W0) := by rw [← hW0]; exact (HB _).out
  have HZ0 : Hid (W0.heap.size = w.heap.size + 1) := by unfold Hid; rw [← hW0]; simp
  have HF0 : Hid (W0.cell? ⟨w.heap.size, 0, none⟩ = some (.int .i64 T.kind) ∧ W0.cell? ⟨w.heap.size, 1, none⟩ = some (.int .i64 T.num) ∧ W0.cell? ⟨w.heap.size, 2, none⟩ = some (.string T.name) ∧ W0.cell? ⟨w.heap.size, 3, none⟩ = some (.slice a T.len cap)) := by
    rw [← hW0]; unfold Hid; simp [go_sem]
  have HW0 := hid_mk hW0
  clear hW0
  have HFB : Hid (∀ W, Below W0.heap.size W0 W → W.cell? ⟨w.heap.size, 0, none⟩ = some (.int .i64 T.kind) ∧ W.cell? ⟨w.heap.size, 1, none⟩ = some (.int .i64 T.num) ∧ W.cell? ⟨w.heap.size, 2, none⟩ = some (.string T.name) ∧ W.cell? ⟨w.heap.size, 3, none⟩ = some (.slice a T.len cap)) := fun W hb => by
    have hlt : w.heap.size < W0.heap.size := by have := HZ0.out; omega
    obtain ⟨h0, h1, h2, h3⟩ := HF0.out
    exact ⟨(hb.cell (p := ⟨w.heap.size, 0, none⟩) hlt).trans h0, (hb.cell (p := ⟨w.heap.size, 1, none⟩) hlt).trans h1, (hb.cell (p := ⟨w.heap.size, 2, none⟩) hlt).trans h2, (hb.cell (p := ⟨w.heap.size, 3, none⟩) hlt).trans h3⟩
  go_enter Tryd.func13, Tryd.ntmps13
  go_wp2_with fail
  rw [HW0.out]
  refine (HLF.out _ HB0.out).mono ?_
  rintro e w1 ⟨rfl, hb1⟩
  obtain ⟨q0, q1, q2, q3⟩ := HFB.out _ hb1
  have hz1 := hb1.size
  have HL1 := hid_mk hb1
  have HB1 := hid_mk (HB0.out.trans (hb1.mono (by have := HZ0.out; omega)))
  clear hb1 HLF
  go_wp2_with fail
  refine (HRG.out _ HB1.out).mono ?_
  rintro e w2 ⟨rfl, hb2⟩
  clear q0 q1 q2 q3
  obtain ⟨q0, q1, q2, q3⟩ := HFB.out _ (HL1.out.trans (hb2.mono hz1))
  have hz2 := hb2.size
  have HB2 := hid_mk (HB1.out.trans (hb2.mono (by have := HZ0.out; omega)))
  clear hb2 HRG HL1
  generalize rightT T 1 = X at *
  generalize chooseT 0 T = C at *
  rcases hro with hX | ⟨hX1, hX2, -⟩
  · have HN := hid_mk (HSTU.out hX)
    subst hX
    go_wp2
    go_ret
    exact ⟨ret_bool HN.out.symm, HB2.out⟩
  · have hXn : ¬ X = -1 := by omega
    by_cases hbig : X ≤ 401
    · have HC2 := hid_mk (HCH.out hXn w2 HB2.out)
      have HN1 := hid_mk (fun h => HYES.out HMO.out hXn hbig h)
      clear HCH hXn
      go_wp2_with fail
      refine HC2.out.mono ?_
      rintro e w3 ⟨u, rfl, htr, hb3⟩
      obtain ⟨sa, sc, rfl⟩ := tr_shape htr
      have hz3 := hb3.size
      have HB3 := hid_mk (HB2.out.trans (hb3.mono (by have := HZ0.out; omega)))
      have HR3 := hid_mk (HTR.out w3 _ (row_wide (tr_row htr) (Nat.zero_le _) (Nat.le_refl _)))
      clear htr hb3 HTR HC2
      cases htb : treeB C
      · have HN2 := hid_mk (HTRE.out htb)
        rw [htb] at HR3
        go_wp2_with (go_at_call 31; refine HR3.out.mono ?_; rintro e w4 ⟨rfl, hb4⟩; have HB4 := hid_mk (HB3.out.trans (hb4.mono (by have := HZ0.out; omega))); clear hb4)
        go_ret
        exact ⟨ret_bool HN2.out.symm, HB4.out⟩
      · have HN2 := hid_mk (HN1.out htb)
        rw [htb] at HR3
        go_wp2_with (go_at_call 31; refine HR3.out.mono ?_; rintro e w4 ⟨rfl, hb4⟩; have HB4 := hid_mk (HB3.out.trans (hb4.mono (by have := HZ0.out; omega))); clear hb4)
        go_ret
        exact ⟨ret_bool HN2.out.symm, HB4.out⟩
    · have HN := hid_mk (HMANY.out (by omega))
      have hb' : 401 < X := by omega
      go_wp2
      go_ret
      exact ⟨ret_bool HN.out.symm, HB2.out⟩

theorem impl_woven (T : Nd) (w : World) (v : Value) (hf : T.Fine) (hr : Row 0 w.heap.size w T v) (hc : T.cost ≤ 1048576) (ht : Tabs w) :
    Calls Tryd.prog 15 #[T.val v] w fun e w' => e = .returned (.bool (wovB T)) ∧ Below w.heap.size w w' := by
  have HW := hid_mk (fun (W : World) (hb : Below w.heap.size w W) => woven_any T W v hf (row_wide (row_below hb (Nat.le_refl _) hr) (Nat.le_refl _) hb.size) hc (tabs_below ht hb))
  obtain ⟨a, cap, rfl, hcap, hq⟩ := row_eq.1 hr
  have HB : ∀ a : Obj, Hid (Below w.heap.size w (w.alloc a)) := fun a => (Below.refl _ _).alloc (Nat.le_refl _) _
  unfold Nd.val at HW
  unfold Nd.val
  clear hr hf hq hcap ht
  generalize wovN T = n at *
  generalize wovB T = b at *
  go_enter Tryd.func15, Tryd.ntmps15
  go_wp2_with (go_at_call 34; refine (HW.out _ (HB _).out).mono ?_; rintro e w1 ⟨rfl, hb1⟩; have HB1 := hid_mk ((HB _).out.trans (hb1.mono (by simp))); clear hb1)
  go_ret
  exact ⟨rfl, HB1.out⟩

theorem impl_picks (T : Nd) (w : World) (v : Value) (hf : T.Fine) (hr : Row 0 w.heap.size w T v) (hc : T.cost ≤ 1048576) (ht : Tabs w) :
    Calls Tryd.prog 22 #[T.val v] w fun e w' => e = .returned (.tuple #[.int .i64 (wovN T), .int .i64 (wovC T)]) ∧ Below w.heap.size w w' := by
  have HW := hid_mk (fun (W : World) (hb : Below w.heap.size w W) => woven_any T W v hf (row_wide (row_below hb (Nat.le_refl _) hr) (Nat.le_refl _) hb.size) hc (tabs_below ht hb))
  obtain ⟨a, cap, rfl, hcap, hq⟩ := row_eq.1 hr
  have HB : ∀ a : Obj, Hid (Below w.heap.size w (w.alloc a)) := fun a => (Below.refl _ _).alloc (Nat.le_refl _) _
  have HN0 : Hid (wovB T = false → wovN T = 0 ∧ wovC T = 1) := fun h => by unfold wovN wovC; rw [h]; simp
  have HN1 : Hid (wovB T = true → wovC T = 0) := fun h => by unfold wovC; rw [h]; simp
  unfold Nd.val at HW
  unfold Nd.val
  clear hr hf hq hcap ht
  cases hb : wovB T
  · obtain ⟨h1, h2⟩ := HN0.out hb
    rw [hb] at HW
    rw [h1, h2]
    generalize wovN T = n at *
    clear h1 h2 HN0 HN1 hb
    go_enter Tryd.func22, Tryd.ntmps22
    go_wp2_with (go_at_call 34; refine (HW.out _ (HB _).out).mono ?_; rintro e w1 ⟨rfl, hb1⟩; have HB1 := hid_mk ((HB _).out.trans (hb1.mono (by simp))); clear hb1)
    go_ret2
    exact ⟨rfl, HB1.out⟩
  · have h2 := HN1.out hb
    rw [hb] at HW
    rw [h2]
    generalize wovN T = n at *
    clear h2 HN0 HN1 hb
    go_enter Tryd.func22, Tryd.ntmps22
    go_wp2_with (go_at_call 34; refine (HW.out _ (HB _).out).mono ?_; rintro e w1 ⟨rfl, hb1⟩; have HB1 := hid_mk ((HB _).out.trans (hb1.mono (by simp))); clear hb1)
    go_ret2
    exact ⟨rfl, HB1.out⟩

theorem spec_picks (T : Nd) (w : World) (v : Value) (hi : Nat) (hf : T.Fine) (hhi : hi ≤ w.heap.size) (hr : Row 0 hi w T v) (hc : T.cost ≤ 1048576) :
    Calls Tryd.prog 21 #[T.val v] w fun e w' => e = .returned (.tuple #[.int .i64 (wovN T), .int .i64 (wovC T)]) ∧ Below w.heap.size w w' := by
  have HW := hid_mk (fun (W : World) (hb : Below w.heap.size w W) => spec_woven T W v hi hf (Nat.le_trans hhi hb.size) (row_below hb hhi hr) hc)
  have HCN := hid_mk (fun (W : World) (hb : Below w.heap.size w W) => count_any T W v hi hf (Nat.le_trans hhi hb.size) (row_below hb hhi hr) hc)
  obtain ⟨a, cap, rfl, hcap, hq⟩ := row_eq.1 hr
  have HB : ∀ a : Obj, Hid (Below w.heap.size w (w.alloc a)) := fun a => (Below.refl _ _).alloc (Nat.le_refl _) _
  have HN0 : Hid (wovB T = false → wovN T = 0 ∧ wovC T = 1) := fun h => by unfold wovN wovC; rw [h]; simp
  have HN1 : Hid (wovB T = true → wovC T = 0) := fun h => by unfold wovC; rw [h]; simp
  have HN2 := hid_mk (@wov_ways T)
  unfold Nd.val at HW HCN
  unfold Nd.val
  clear hr hf hq hcap
  generalize hW0 : w.alloc (.cells #[.int .i64 T.kind, .int .i64 T.num, .string T.name, .slice a T.len cap] 37) = W0
  have HB0 : Hid (Below w.heap.size w W0) := by rw [← hW0]; exact (HB _).out
  have HZ0 : Hid (W0.heap.size = w.heap.size + 1) := by unfold Hid; rw [← hW0]; simp
  have HF0 : Hid (W0.cell? ⟨w.heap.size, 0, none⟩ = some (.int .i64 T.kind) ∧ W0.cell? ⟨w.heap.size, 1, none⟩ = some (.int .i64 T.num) ∧ W0.cell? ⟨w.heap.size, 2, none⟩ = some (.string T.name) ∧ W0.cell? ⟨w.heap.size, 3, none⟩ = some (.slice a T.len cap)) := by
    rw [← hW0]; unfold Hid; simp [go_sem]
  have HW0 := hid_mk hW0
  clear hW0
  cases hb : wovB T
  · obtain ⟨h1, h2⟩ := HN0.out hb
    rw [hb] at HW
    rw [h1, h2]
    clear h1 h2 HN0 HN1 HN2 hb
    go_enter Tryd.func21, Tryd.ntmps21
    go_wp2_with (go_at_call 13; rw [HW0.out]; refine (HW.out _ HB0.out).mono ?_; rintro e w1 ⟨rfl, hb1⟩; have HB1 := hid_mk (HB0.out.trans (hb1.mono (by have := HZ0.out; omega))); clear hb1)
    go_ret2
    exact ⟨rfl, HB1.out⟩
  · have h2 := HN1.out hb
    obtain ⟨h3, h4, h5⟩ := HN2.out hb
    rw [hb] at HW
    rw [h2, h3]
    clear h2 h3 HN0 HN1 HN2 hb
    generalize waysT T = n at *
    generalize picksT T = m at *
    go_enter Tryd.func21, Tryd.ntmps21
    go_wp2_with (first | (go_at_call 13; rw [HW0.out]; refine (HW.out _ HB0.out).mono ?_; rintro e w1 ⟨rfl, hb1⟩; have HB1 := hid_mk (HB0.out.trans (hb1.mono (by have := HZ0.out; omega))); obtain ⟨q0, q1, q2, q3⟩ := HF0.out; rw [← hb1.cell (p := ⟨w.heap.size, _, none⟩) (show w.heap.size < W0.heap.size by have := HZ0.out; omega)] at q0 q1 q2 q3; have hz1 := hb1.size; clear hb1) | (go_at_call 36; refine (HCN.out _ HB1.out).mono ?_; rintro e w2 ⟨rfl, hb2⟩; have HB2 := hid_mk (HB1.out.trans (hb2.mono (by have := HZ0.out; omega))); clear hb2))
    go_ret2
    exact ⟨rfl, HB2.out⟩
end Go.Proofs.YtjgbjahcnnjfpaaDoor
