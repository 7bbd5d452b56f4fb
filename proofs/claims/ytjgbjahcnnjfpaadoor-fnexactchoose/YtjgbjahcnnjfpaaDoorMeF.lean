/- The specification's count of picks and ways. -/
import Derived.Test.YtjgbjahcnnjfpaaDoorMeB
import Derived.Test.YtjgbjahcnnjfpaaDoorMaA
import Derived.WalkSpells
import Derived.WalkSmall
import Derived.Test.YtjgbjahcnnjfpaaDoorMeD
import Derived.Test.YtjgbjahcnnjfpaaDoorMeC
import Derived.Test.YtjgbjahcnnjfpaaDoorMeA
set_option linter.unusedVariables false
namespace Go.Proofs.YtjgbjahcnnjfpaaDoor
open Go.RowKit

def CnC (T : Nd) : Prop := ∀ (w : World) (v : Value) (hi : Nat), T.Fine → hi ≤ w.heap.size → Row 0 hi w T v → T.cost ≤ 1048576 →
  Calls Tryd.prog 36 #[T.val v] w fun e w' => e = .returned (.tuple #[.int .i64 (picksT T : Int), .int .i64 (waysT T)]) ∧ Below w.heap.size w w'

def pAt (b : Nat) (f : Nat → Nat) (j : Nat) : Int := ((b + sumTo f j : Nat) : Int)
def wAt (b : Int) (f : Nat → Int) (j : Nat) : Int := b + isum f j
theorem ret_twoW {a b c d : Int} (h1 : a = b) (h2 : c = d) : Ending.returned (.tuple #[.int .i64 a, .int .i64 c]) = .returned (.tuple #[.int .i64 b, .int .i64 d]) := by rw [h1, h2]

theorem picks_at (T : Nd) (j : Nat) (hj : j ≤ T.len) : sumTo (fun i => picksT (T.kids i)) j ≤ sumTo (fun i => (T.kids i).size) j := by
  have : ∀ m, sumTo (fun i => picksT (T.kids i)) m ≤ sumTo (fun i => (T.kids i).size) m := fun m => by
    induction m with
    | zero => exact Nat.le_refl _
    | succ m ihm => simp only [sumTo]; have := picks_le (T.kids m); omega
  exact this j
theorem ways_at (T : Nd) (j : Nat) (hj : j ≤ T.len) : -(sumTo (fun i => (T.kids i).size) j : Int) ≤ isum (fun i => waysT (T.kids i)) j ∧ isum (fun i => waysT (T.kids i)) j ≤ (sumTo (fun i => (T.kids i).size) j : Int) := by
  have : ∀ m, -(sumTo (fun i => (T.kids i).size) m : Int) ≤ isum (fun i => waysT (T.kids i)) m ∧ isum (fun i => waysT (T.kids i)) m ≤ (sumTo (fun i => (T.kids i).size) m : Int) := fun m => by
    induction m with
    | zero => simp [isum, sumTo]
    | succ m ihm => simp only [isum, sumTo]; have := ways_le (T.kids m); omega
  exact this j

set_option maxHeartbeats 4000000 in
theorem count_of (T : Nd) (ih : ∀ i, i < T.len → CnC (T.kids i)) : CnC T := by
  intro w v hi hf hhi hr hcost
  have hn := T.fine_len hf
  have hce := T.cost_eq
  have hsz := T.size_cost
  have hse := T.size_eq
  have hl20 : T.len ≤ 1048576 := by omega
  have hck : ∀ j, j < T.len → (T.kids j).cost ≤ 1048576 := fun j hj => Nat.le_trans (T.cost_kid hj) hcost
  have hpb : ∀ j, j ≤ T.len → sumTo (fun i => picksT (T.kids i)) j ≤ 1048577 := fun j hj => by
    have h1 := picks_at T j hj
    have h2 := sumTo_le (fun i => (T.kids i).size) hj
    omega
  have hwb : ∀ j, j ≤ T.len → -1048577 ≤ isum (fun i => waysT (T.kids i)) j ∧ isum (fun i => waysT (T.kids i)) j ≤ 1048577 := fun j hj => by
    have h1 := ways_at T j hj
    have h2 := sumTo_le (fun i => (T.kids i).size) hj
    omega
  have hkp : ∀ j, j < T.len → picksT (T.kids j) ≤ 1048577 ∧ -1048577 ≤ waysT (T.kids j) ∧ waysT (T.kids j) ≤ 1048577 := fun j hj => by
    have h1 := picks_le (T.kids j)
    have h2 := ways_le (T.kids j)
    have h3 := size_kid T hj
    omega
  have HPE := hid_mk (picks_eq T)
  have HWE := hid_mk (ways_eq T)
  obtain ⟨a, cap, rfl, hcap, hq⟩ := row_eq.1 hr
  have HI := hid_mk ih
  have HF := hid_mk hf
  have HR := hid_mk hq
  have HK := hid_mk hck
  have HP := hid_mk hpb
  have HW := hid_mk hwb
  have HKP := hid_mk hkp
  clear hr hf ih hq hck hce hcap hsz hse hpb hwb hkp
  have HB : ∀ a : Obj, Hid (Below w.heap.size w (w.alloc a)) := fun a => (Below.refl _ _).alloc (Nat.le_refl _) _
  unfold Nd.val
  by_cases hk : T.kind = 30
  case pos =>
    have hkb : (T.kind == 30) = true := by simp [hk]
    have HPE2 : Hid (picksT T = 1 + sumTo (fun i => picksT (T.kids i)) T.len) := by have := HPE.out; rw [if_pos hk] at this; exact this
    have HWE2 : Hid (waysT T = ((T.len : Int) - 1) + isum (fun i => waysT (T.kids i)) T.len) := by have := HWE.out; rw [if_pos hk] at this; exact this
    clear HPE HWE hk
    generalize hW0 : w.alloc (.cells #[.int .i64 T.kind, .int .i64 T.num, .string T.name, .slice a T.len cap] 37) = W0
    have HB0 : Hid (Below w.heap.size w W0) := by rw [← hW0]; exact (HB _).out
    have HZ0 : Hid (W0.heap.size = w.heap.size + 1) := by unfold Hid; rw [← hW0]; simp
    have HC0 : Hid (W0.cell? ⟨w.heap.size, 0, none⟩ = some (.int .i64 T.kind) ∧ W0.cell? ⟨w.heap.size, 3, none⟩ = some (.slice a T.len cap)) := by
      rw [← hW0]; unfold Hid; simp [go_sem]
    have HW0 := hid_mk hW0
    clear hW0
    obtain ⟨k0, k3⟩ := HC0.out
    go_enter Tryd.func36, Tryd.ntmps36
    go_wp2
    rw [HW0.out]
    go_loopw [4, 5, 6] (fun p q i wr => ∃ (j : Nat), j ≤ T.len ∧ i = .int .i64 j ∧ p = .int .i64 (pAt 1 (fun i => picksT (T.kids i)) j) ∧ q = .int .i64 (wAt ((T.len : Int) - 1) (fun i => waysT (T.kids i)) j) ∧ Below W0.heap.size W0 wr) (fun _ _ i _ => T.len - (intOf i).toNat)
    case atStart => exact ⟨0, by omega, rfl, rfl, by unfold wAt isum; simp, Below.refl _ _⟩
    case round =>
      obtain ⟨j, hj, rfl, rfl, rfl, hbr⟩ := hrel
      have hz := hbr.size
      have HBR := hid_mk hbr
      have r3 : wr.cell? ⟨w.heap.size, 3, none⟩ = some (.slice a T.len cap) := (hbr.cell (p := ⟨w.heap.size, 3, none⟩) (show w.heap.size < W0.heap.size by have := HZ0.out; omega)).trans k3
      have hbw := HB0.out.trans (hbr.mono (by have := HZ0.out; omega))
      have h1 := HP.out j hj
      have h2 := HW.out j hj
      have hp1 : pAt 1 (fun i => picksT (T.kids i)) j = ((1 + sumTo (fun i => picksT (T.kids i)) j : Nat) : Int) := rfl
      have hw1 : wAt ((T.len : Int) - 1) (fun i => waysT (T.kids i)) j = ((T.len : Int) - 1) + isum (fun i => waysT (T.kids i)) j := rfl
      by_cases hlt : j < T.len
      · rcases HR.out with h0 | ⟨g, off, rfl, g1, g2, g3⟩
        · omega
        obtain ⟨x, e0, e1, e2, e3, hx⟩ := g3 j hlt
        have hgl : g < w.heap.size := by omega
        rw [← hbw.cell (p := ⟨g, _, none⟩) hgl] at e0 e1 e2 e3
        obtain ⟨xa, xc, rfl⟩ : ∃ xa xc, x = .slice xa (T.kids j).len xc := by obtain ⟨a', c', h, _⟩ := row_eq.1 hx; exact ⟨a', c', h⟩
        have HC := HI.out j hlt
        unfold CnC Nd.val at HC
        have HCL := hid_mk (HC wr _ hi (Nd.fine_kid HF.out hlt) (by have := HZ0.out; omega) (row_below hbw hhi hx) (HK.out j hlt))
        obtain ⟨b1, b2, b3⟩ := HKP.out j hlt
        have hjl : (j : Int) < (T.len : Int) := by omega
        have HPS : Hid (pAt 1 (fun i => picksT (T.kids i)) j + (picksT (T.kids j) : Int) = pAt 1 (fun i => picksT (T.kids i)) (j + 1)) := by unfold Hid pAt; simp only [sumTo]; omega
        have HWS : Hid (wAt ((T.len : Int) - 1) (fun i => waysT (T.kids i)) j + waysT (T.kids j) = wAt ((T.len : Int) - 1) (fun i => waysT (T.kids i)) (j + 1)) := by unfold Hid wAt; simp only [isum]; omega
        have q1 : -3000000 ≤ pAt 1 (fun i => picksT (T.kids i)) j ∧ pAt 1 (fun i => picksT (T.kids i)) j ≤ 3000000 := by omega
        have q2 : -3000000 ≤ wAt ((T.len : Int) - 1) (fun i => waysT (T.kids i)) j ∧ wAt ((T.len : Int) - 1) (fun i => waysT (T.kids i)) j ≤ 3000000 := by omega
        obtain ⟨q1a, q1b⟩ := q1
        obtain ⟨q2a, q2b⟩ := q2
        clear g3 HC hx hbr hbw hp1 hw1 h1 h2
        generalize pAt 1 (fun i => picksT (T.kids i)) j = pj at *
        generalize wAt ((T.len : Int) - 1) (fun i => waysT (T.kids i)) j = wj at *
        generalize picksT (T.kids j) = pp at *
        generalize waysT (T.kids j) = ww at *
        go_wp2_with (go_at_call 36; refine HCL.out.mono ?_; rintro e w1 ⟨rfl, hb1⟩; have HB1 := hid_mk hb1; clear hb1)
        go_roundw
        case rel => exact ⟨j + 1, by omega, by go_num, by rw [← HPS.out], by rw [← HWS.out], HBR.out.trans (HB1.out.mono hz)⟩
        case measure => simp [intOf]; omega
      · obtain rfl : j = T.len := by omega
        have HBW := hid_mk hbw
        have HP1 := hid_mk hp1
        have HW1 := hid_mk hw1
        clear hbr hbw hp1 hw1 h1 h2
        go_wp2
        go_ret2
        exact ⟨ret_twoW (by rw [HP1.out, HPE2.out]) (by rw [HW1.out, HWE2.out]), HBW.out⟩
  case neg =>
    have hkb : (T.kind == 30) = false := by simp [hk]
    have HPE2 : Hid (picksT T = 0 + sumTo (fun i => picksT (T.kids i)) T.len) := by have := HPE.out; rw [if_neg hk] at this; exact this
    have HWE2 : Hid (waysT T = 0 + isum (fun i => waysT (T.kids i)) T.len) := by have := HWE.out; rw [if_neg hk] at this; exact this
    clear HPE HWE hk
    generalize hW0 : w.alloc (.cells #[.int .i64 T.kind, .int .i64 T.num, .string T.name, .slice a T.len cap] 37) = W0
    have HB0 : Hid (Below w.heap.size w W0) := by rw [← hW0]; exact (HB _).out
    have HZ0 : Hid (W0.heap.size = w.heap.size + 1) := by unfold Hid; rw [← hW0]; simp
    have HC0 : Hid (W0.cell? ⟨w.heap.size, 0, none⟩ = some (.int .i64 T.kind) ∧ W0.cell? ⟨w.heap.size, 3, none⟩ = some (.slice a T.len cap)) := by
      rw [← hW0]; unfold Hid; simp [go_sem]
    have HW0 := hid_mk hW0
    clear hW0
    obtain ⟨k0, k3⟩ := HC0.out
    go_enter Tryd.func36, Tryd.ntmps36
    go_wp2
    rw [HW0.out]
    go_loopw [4, 5, 6] (fun p q i wr => ∃ (j : Nat), j ≤ T.len ∧ i = .int .i64 j ∧ p = .int .i64 (pAt 0 (fun i => picksT (T.kids i)) j) ∧ q = .int .i64 (wAt 0 (fun i => waysT (T.kids i)) j) ∧ Below W0.heap.size W0 wr) (fun _ _ i _ => T.len - (intOf i).toNat)
    case atStart => exact ⟨0, by omega, rfl, rfl, by unfold wAt isum; simp, Below.refl _ _⟩
    case round =>
      obtain ⟨j, hj, rfl, rfl, rfl, hbr⟩ := hrel
      have hz := hbr.size
      have HBR := hid_mk hbr
      have r3 : wr.cell? ⟨w.heap.size, 3, none⟩ = some (.slice a T.len cap) := (hbr.cell (p := ⟨w.heap.size, 3, none⟩) (show w.heap.size < W0.heap.size by have := HZ0.out; omega)).trans k3
      have hbw := HB0.out.trans (hbr.mono (by have := HZ0.out; omega))
      have h1 := HP.out j hj
      have h2 := HW.out j hj
      have hp1 : pAt 0 (fun i => picksT (T.kids i)) j = ((0 + sumTo (fun i => picksT (T.kids i)) j : Nat) : Int) := rfl
      have hw1 : wAt 0 (fun i => waysT (T.kids i)) j = 0 + isum (fun i => waysT (T.kids i)) j := rfl
      by_cases hlt : j < T.len
      · rcases HR.out with h0 | ⟨g, off, rfl, g1, g2, g3⟩
        · omega
        obtain ⟨x, e0, e1, e2, e3, hx⟩ := g3 j hlt
        have hgl : g < w.heap.size := by omega
        rw [← hbw.cell (p := ⟨g, _, none⟩) hgl] at e0 e1 e2 e3
        obtain ⟨xa, xc, rfl⟩ : ∃ xa xc, x = .slice xa (T.kids j).len xc := by obtain ⟨a', c', h, _⟩ := row_eq.1 hx; exact ⟨a', c', h⟩
        have HC := HI.out j hlt
        unfold CnC Nd.val at HC
        have HCL := hid_mk (HC wr _ hi (Nd.fine_kid HF.out hlt) (by have := HZ0.out; omega) (row_below hbw hhi hx) (HK.out j hlt))
        obtain ⟨b1, b2, b3⟩ := HKP.out j hlt
        have hjl : (j : Int) < (T.len : Int) := by omega
        have HPS : Hid (pAt 0 (fun i => picksT (T.kids i)) j + (picksT (T.kids j) : Int) = pAt 0 (fun i => picksT (T.kids i)) (j + 1)) := by unfold Hid pAt; simp only [sumTo]; omega
        have HWS : Hid (wAt 0 (fun i => waysT (T.kids i)) j + waysT (T.kids j) = wAt 0 (fun i => waysT (T.kids i)) (j + 1)) := by unfold Hid wAt; simp only [isum]; omega
        have q1 : -3000000 ≤ pAt 0 (fun i => picksT (T.kids i)) j ∧ pAt 0 (fun i => picksT (T.kids i)) j ≤ 3000000 := by omega
        have q2 : -3000000 ≤ wAt 0 (fun i => waysT (T.kids i)) j ∧ wAt 0 (fun i => waysT (T.kids i)) j ≤ 3000000 := by omega
        obtain ⟨q1a, q1b⟩ := q1
        obtain ⟨q2a, q2b⟩ := q2
        clear g3 HC hx hbr hbw hp1 hw1 h1 h2
        generalize pAt 0 (fun i => picksT (T.kids i)) j = pj at *
        generalize wAt 0 (fun i => waysT (T.kids i)) j = wj at *
        generalize picksT (T.kids j) = pp at *
        generalize waysT (T.kids j) = ww at *
        go_wp2_with (go_at_call 36; refine HCL.out.mono ?_; rintro e w1 ⟨rfl, hb1⟩; have HB1 := hid_mk hb1; clear hb1)
        go_roundw
        case rel => exact ⟨j + 1, by omega, by go_num, by rw [← HPS.out], by rw [← HWS.out], HBR.out.trans (HB1.out.mono hz)⟩
        case measure => simp [intOf]; omega
      · obtain rfl : j = T.len := by omega
        have HBW := hid_mk hbw
        have HP1 := hid_mk hp1
        have HW1 := hid_mk hw1
        clear hbr hbw hp1 hw1 h1 h2
        go_wp2
        go_ret2
        exact ⟨ret_twoW (by rw [HP1.out, HPE2.out]) (by rw [HW1.out, HWE2.out]), HBW.out⟩

theorem count_any (T : Nd) : CnC T := by
  induction T with
  | nil => exact count_of _ fun i hi => absurd hi (Nat.not_lt_zero i)
  | mk k n s len kids ih => exact count_of _ fun i _ => ih i
end Go.Proofs.YtjgbjahcnnjfpaaDoor
namespace Go.Proofs.YtjgbjahcnnjfpaaDoor
open Go.RowKit

def RgC (T : Nd) : Prop := ∀ (w : World) (v : Value) (hi : Nat) (x : Int), T.Fine → hi ≤ w.heap.size → Row 0 hi w T v → T.cost ≤ 1048576 → 1 ≤ x → x + (T.size : Int) ≤ 1000000000 →
  Calls Tryd.prog 30 #[T.val v, .int .i64 x] w fun e w' => e = .returned (.int .i64 (rightT T x)) ∧ Below w.heap.size w w'

theorem run_stuck {f : Nat → Int → Int} {x : Int} {j : Nat} (h : runR f j x = -1) : ∀ m, j ≤ m → runR f m x = -1 := by
  intro m hm
  induction hm with
  | refl => exact h
  | step _ ih => simp only [runR]; rw [ih]; rfl
theorem run_bd (T : Nd) (x : Int) (hx : 1 ≤ x) : ∀ m, m ≤ T.len → runR (fun i y => rightT (T.kids i) y) m x = -1 ∨ (x ≤ runR (fun i y => rightT (T.kids i) y) m x ∧ runR (fun i y => rightT (T.kids i) y) m x ≤ x + (sumTo (fun i => (T.kids i).size) m : Int)) := by
  intro m
  induction m with
  | zero => intro _; exact .inr ⟨Int.le_refl _, by simp [runR, sumTo]⟩
  | succ m ihm =>
    intro hml
    rcases ihm (by omega) with h | ⟨h1, h2⟩
    · exact .inl (run_stuck h _ (by omega))
    · simp only [runR]
      rw [if_pos (by omega)]
      rcases right_ok (T.kids m) _ (show 1 ≤ runR (fun i y => rightT (T.kids i) y) m x by omega) with h | ⟨ha, hb, _⟩
      · exact .inl h
      · exact .inr ⟨by omega, by simp only [sumTo]; omega⟩

theorem pre_sum (T : Nd) (h : 0 < T.len) : (T.kids 0).size + (T.len - 1) + 1 ≤ T.size := by
  rw [T.size_eq]
  have : ∀ m, 1 ≤ m → (T.kids 0).size + (m - 1) ≤ sumTo (fun i => (T.kids i).size) m := by
    intro m
    induction m with
    | zero => intro h; omega
    | succ m ihm =>
      intro _
      simp only [sumTo]
      by_cases e : m = 0
      · subst e; simp [sumTo]
      · have := ihm (by omega); have := size_pos (T.kids m); omega
  have := this T.len (by omega)
  omega

set_option maxHeartbeats 4000000 in
theorem right_no (T : Nd) (hk : ¬ T.kind = 30) (ih : ∀ i, i < T.len → RgC (T.kids i)) : RgC T := by
  intro w v hi x hf hhi hr hcost hx hxs
  have hn := T.fine_len hf
  have hse := T.size_eq
  have hce := T.cost_eq
  have hl20 : T.len ≤ 1048576 := by omega
  have hck : ∀ j, j < T.len → (T.kids j).cost ≤ 1048576 := fun j hj => Nat.le_trans (T.cost_kid hj) hcost
  have HRE : Hid (rightT T x = runR (fun i y => rightT (T.kids i) y) T.len x) := by have := right_eq T x; rw [if_neg hk] at this; exact this
  have HBD : Hid (∀ j, j < T.len → runR (fun i y => rightT (T.kids i) y) j x = -1 ∨ (1 ≤ runR (fun i y => rightT (T.kids i) y) j x ∧ runR (fun i y => rightT (T.kids i) y) j x + ((T.kids j).size : Int) ≤ 1000000000)) := fun j hj => by
    rcases run_bd T x hx j (by omega) with h | ⟨h1, h2⟩
    · exact .inl h
    · have := sumTo_at (fun i => (T.kids i).size) hj
      exact .inr ⟨by omega, by omega⟩
  have hkb : (T.kind == 30) = false := by simp [hk]
  obtain ⟨a, cap, rfl, hcap, hq⟩ := row_eq.1 hr
  have HI := hid_mk ih
  have HF := hid_mk hf
  have HR := hid_mk hq
  have HK := hid_mk hck
  clear hr hf ih hq hck hce hcap hse hk
  have HB : ∀ a : Obj, Hid (Below w.heap.size w (w.alloc a)) := fun a => (Below.refl _ _).alloc (Nat.le_refl _) _
  unfold Nd.val
  generalize hW0 : w.alloc (.cells #[.int .i64 T.kind, .int .i64 T.num, .string T.name, .slice a T.len cap] 37) = W0
  have HB0 : Hid (Below w.heap.size w W0) := by rw [← hW0]; exact (HB _).out
  have HZ0 : Hid (W0.heap.size = w.heap.size + 1) := by unfold Hid; rw [← hW0]; simp
  have HW0 := hid_mk hW0
  clear hW0
  go_enter Tryd.func30, Tryd.ntmps30
  go_wp2
  rw [HW0.out]
  go_loopw [1, 9] (fun p i wr => ∃ (j : Nat), j ≤ T.len ∧ i = .int .i64 j ∧ p = .int .i64 (runR (fun i y => rightT (T.kids i) y) j x) ∧ Below W0.heap.size W0 wr) (fun _ i _ => T.len - (intOf i).toNat)
  case atStart => exact ⟨0, by omega, rfl, rfl, Below.refl _ _⟩
  case round =>
    obtain ⟨j, hj, rfl, rfl, hbr⟩ := hrel
    have hz := hbr.size
    have HBR := hid_mk hbr
    have hbw := HB0.out.trans (hbr.mono (by have := HZ0.out; omega))
    have HBW := hid_mk hbw
    by_cases hlt : j < T.len
    · rcases HBD.out j hlt with hst | ⟨hge, hle⟩
      · have HS := hid_mk (run_stuck hst T.len hj)
        rw [hst]
        have hjl : (j : Int) < (T.len : Int) := by omega
        clear hst hbr hbw
        go_wp2
        go_ret
        exact ⟨ret_in (by rw [HRE.out, HS.out]), HBW.out⟩
      · rcases HR.out with h0 | ⟨g, off, rfl, g1, g2, g3⟩
        · omega
        obtain ⟨y, e0, e1, e2, e3, hy⟩ := g3 j hlt
        have hgl : g < w.heap.size := by omega
        rw [← hbw.cell (p := ⟨g, _, none⟩) hgl] at e0 e1 e2 e3
        obtain ⟨xa, xc, rfl⟩ : ∃ xa xc, y = .slice xa (T.kids j).len xc := by obtain ⟨a', c', h, _⟩ := row_eq.1 hy; exact ⟨a', c', h⟩
        have HC := HI.out j hlt
        unfold RgC Nd.val at HC
        have HCL := hid_mk (HC wr _ hi (runR (fun i y => rightT (T.kids i) y) j x) (Nd.fine_kid HF.out hlt) (by have := HZ0.out; omega) (row_below hbw hhi hy) (HK.out j hlt) hge hle)
        have HNX : Hid (rightT (T.kids j) (runR (fun i y => rightT (T.kids i) y) j x) = runR (fun i y => rightT (T.kids i) y) (j + 1) x) := by
          unfold Hid; show _ = (if 0 < runR (fun i y => rightT (T.kids i) y) j x then _ else _); rw [if_pos (by omega)]
        have hjl : (j : Int) < (T.len : Int) := by omega
        have hgp : 0 < runR (fun i y => rightT (T.kids i) y) j x := by omega
        clear g3 HC hy hbr hbw hge hle
        generalize rightT (T.kids j) (runR (fun i y => rightT (T.kids i) y) j x) = r1 at *
        generalize runR (fun i y => rightT (T.kids i) y) j x = rj at *
        go_wp2_with (go_at_call 30; refine HCL.out.mono ?_; rintro e w1 ⟨rfl, hb1⟩; have HB1 := hid_mk hb1; clear hb1)
        go_roundw
        case rel => exact ⟨j + 1, by omega, by go_num, by rw [← HNX.out], HBR.out.trans (HB1.out.mono hz)⟩
        case measure => simp [intOf]; omega
    · obtain rfl : j = T.len := by omega
      clear hbr hbw
      go_wp2
      go_ret
      exact ⟨ret_in (by rw [HRE.out]), HBW.out⟩

set_option maxHeartbeats 4000000 in
theorem right_yes (T : Nd) (hk : T.kind = 30) (ih : ∀ i, i < T.len → RgC (T.kids i)) : RgC T := by
  intro w v hi x hf hhi hr hcost hx hxs
  have hn := T.fine_len hf
  have hse := T.size_eq
  have hce := T.cost_eq
  have hl20 : T.len ≤ 1048576 := by omega
  have HRE := hid_mk (show rightT T x = _ from (right_eq T x).trans (if_pos hk))
  have HNO : Hid (¬ fitP T x → rightT T x = -1) := fun h => by rw [HRE.out]; unfold fitP at h; rw [if_neg h]
  have HYE : Hid (fitP T x → rightT T x = rightT (T.kids 0) (x + ((T.len : Int) - 1))) := fun h => by rw [HRE.out]; unfold fitP at h; rw [if_pos h]
  have hkb : (T.kind == 30) = true := by simp [hk]
  obtain ⟨a, cap, rfl, hcap, hq⟩ := row_eq.1 hr
  have HB : ∀ a : Obj, Hid (Below w.heap.size w (w.alloc a)) := fun a => (Below.refl _ _).alloc (Nat.le_refl _) _
  have HEM := hid_mk (@empty_iff T.name)
  unfold Nd.val
  by_cases hnx : T.num = x
  case neg =>
    have HN := hid_mk (HNO.out fun h => hnx h.1)
    have hnb : (T.num != x) = true := by simp [hnx]
    clear hr hq hf hnx HRE hk
    go_enter Tryd.func30, Tryd.ntmps30
    go_wp2
    go_ret
    exact ⟨ret_in HN.out.symm, (HB _).out⟩
  have hnb : (T.num != x) = false := by simp [hnx]
  have HNX := hid_mk hnx
  clear hnx
  cases he : T.name.toList.isEmpty
  case false =>
    have HN := hid_mk (HNO.out fun h => by rw [HEM.out.2 h.2.1] at he; cases he)
    generalize T.name = ts at *
    clear hr hq hf HRE hk
    go_enter Tryd.func30, Tryd.ntmps30
    go_wp2
    go_ret
    exact ⟨ret_in HN.out.symm, (HB _).out⟩
  by_cases hl : 2 ≤ T.len
  case neg =>
    have HN := hid_mk (HNO.out fun h => hl h.2.2.1)
    have hl' : (T.len : Int) < 2 := by omega
    generalize T.name = ts at *
    clear hr hq hf hl HRE hk
    go_enter Tryd.func30, Tryd.ntmps30
    go_wp2
    go_ret
    exact ⟨ret_in HN.out.symm, (HB _).out⟩
  have hl' : ¬ (T.len : Int) < 2 := by omega
  have hl0 : 0 < T.len := by omega
  have hli : (0 : Int) < (T.len : Int) := by omega
  rcases hq with h0 | ⟨g, off, rfl, hg0, hg1, hq⟩
  · omega
  obtain ⟨u0, z0, z1, z2, z3, zr⟩ := hq 0 hl0
  simp only [Nat.zero_mul, Nat.add_zero] at z0 z1 z2 z3
  have hgw : g < w.heap.size := by omega
  obtain ⟨xa, xc, rfl⟩ : ∃ xa xc, u0 = .slice xa (T.kids 0).len xc := by obtain ⟨a', c', h, _⟩ := row_eq.1 zr; exact ⟨a', c', h⟩
  by_cases hk0 : (T.kids 0).kind = 30
  case pos =>
    have HN := hid_mk (HNO.out fun h => h.2.2.2.1 hk0)
    have hk' : ((T.kids 0).kind == 30) = true := by simp [hk0]
    generalize T.name = ts at *
    generalize (T.kids 0).kind = kk at *
    clear hr hq hf hk0 HRE hk
    go_enter Tryd.func30, Tryd.ntmps30
    go_wp2
    go_ret
    exact ⟨ret_in HN.out.symm, (HB _).out⟩
  have hk' : ((T.kids 0).kind == 30) = false := by simp [hk0]
  have HK0 := hid_mk hk0
  have HQ := hid_mk hq
  have HF := hid_mk hf
  have HEN : Hid (T.name = ⟨#[]⟩) := HEM.out.1 he
  have HZR := hid_mk zr
  have hsz0 : (x + ((T.len : Int) - 1)) + ((T.kids 0).size : Int) ≤ 1000000000 := by
    have h1 := pre_sum T hl0
    omega
  have HRG := hid_mk (fun (W : World) (hb : Below w.heap.size w W) => ih 0 hl0 W (.slice xa (T.kids 0).len xc) hi (x + ((T.len : Int) - 1)) (Nd.fine_kid hf hl0) (Nat.le_trans hhi hb.size) (row_below hb hhi zr) (Nat.le_trans (T.cost_kid hl0) hcost) (by omega) hsz0)
  have HCN := hid_mk (fun (i : Nat) (hi' : i < T.len) (W : World) (v : Value) (hb : Below w.heap.size w W) (hr : Row 0 hi w (T.kids i) v) => count_any (T.kids i) W v hi (Nd.fine_kid hf hi') (Nat.le_trans hhi hb.size) (row_below hb hhi hr) (Nat.le_trans (T.cost_kid hi') hcost))
  unfold Nd.val at HRG HCN
  clear hr hq hf hk0 HEM zr HRE hse hce hk ih hsz0
  generalize hW0 : w.alloc (.cells #[.int .i64 T.kind, .int .i64 T.num, .string T.name, .slice (some ⟨g, off, none⟩) T.len cap] 37) = W0
  have HB0 : Hid (Below w.heap.size w W0) := by rw [← hW0]; exact (HB _).out
  have HZ0 : Hid (W0.heap.size = w.heap.size + 1) := by unfold Hid; rw [← hW0]; simp
  have HC3 : Hid (W0.cell? ⟨w.heap.size, 3, none⟩ = some (.slice (some ⟨g, off, none⟩) T.len cap)) := by rw [← hW0]; unfold Hid; simp [go_sem]
  have HW0 := hid_mk hW0
  clear hW0
  go_enter Tryd.func30, Tryd.ntmps30
  go_wp2
  rw [HW0.out]
  go_loopw [6] (fun i wr => ∃ (j : Nat), 1 ≤ j ∧ j ≤ T.len ∧ i = .int .i64 j ∧ Below W0.heap.size W0 wr ∧ ∀ i, 1 ≤ i → i < j → picksT (T.kids i) = 0) (fun i _ => T.len - (intOf i).toNat)
  case atStart => exact ⟨1, by omega, by omega, rfl, Below.refl _ _, fun i h1 h2 => by omega⟩
  case round =>
    obtain ⟨j, hj1, hj, rfl, hbr, hpk⟩ := hrel
    have hz := hbr.size
    have HBR := hid_mk hbr
    have HPK := hid_mk hpk
    have hbw := HB0.out.trans (hbr.mono (by have := HZ0.out; omega))
    have HBW := hid_mk hbw
    have r3 : wr.cell? ⟨w.heap.size, 3, none⟩ = some (.slice (some ⟨g, off, none⟩) T.len cap) := (hbr.cell (p := ⟨w.heap.size, 3, none⟩) (show w.heap.size < W0.heap.size by have := HZ0.out; omega)).trans HC3.out
    by_cases hlt : j < T.len
    · obtain ⟨y, e0, e1, e2, e3, hy⟩ := HQ.out j hlt
      rw [← hbw.cell (p := ⟨g, _, none⟩) hgw] at e0 e1 e2 e3
      obtain ⟨ya, yc, rfl⟩ : ∃ xa xc, y = .slice xa (T.kids j).len xc := by obtain ⟨a', c', h, _⟩ := row_eq.1 hy; exact ⟨a', c', h⟩
      have HCL := hid_mk (HCN.out j hlt wr _ hbw hy)
      have hjl : (j : Int) < (T.len : Int) := by omega
      have HFO : Hid (0 < picksT (T.kids j) → ¬ fitP T x) := fun h => fit_other hj1 hlt (by unfold hasPk; simpa using h)
      have hpb : picksT (T.kids j) ≤ 1048577 := by
        have h1 := picks_le (T.kids j)
        have h2 := size_kid T hlt
        have h3 := T.size_cost
        omega
      clear hy hbr hbw hpk
      by_cases hp : picksT (T.kids j) = 0
      · rw [hp] at HCL
        have HP0 := hid_mk hp
        clear hp
        generalize waysT (T.kids j) = ww at *
        go_wp2_with (go_at_call 36; refine HCL.out.mono ?_; rintro e w1 ⟨rfl, hb1⟩; have HB1 := hid_mk hb1; clear hb1)
        go_roundw
        case rel => exact ⟨j + 1, by omega, by omega, by go_num, HBR.out.trans (HB1.out.mono hz), fun i h1 h2 => by
            by_cases e : i = j
            · subst e; exact HP0.out
            · exact HPK.out i h1 (by omega)⟩
        case measure => simp [intOf]; omega
      · have hp0 : 0 < picksT (T.kids j) := by omega
        have hpi : (0 : Int) < (picksT (T.kids j) : Int) := by omega
        have HN := hid_mk (HNO.out (HFO.out hp0))
        generalize waysT (T.kids j) = ww at *
        clear hp
        generalize picksT (T.kids j) = pp at *
        go_wp2_with (go_at_call 36; refine HCL.out.mono ?_; rintro e w1 ⟨rfl, hb1⟩; have HB1 := hid_mk hb1; clear hb1)
        go_ret
        exact ⟨ret_in HN.out.symm, HBW.out.trans (HB1.out.mono (by have := HZ0.out; omega))⟩
    · obtain rfl : j = T.len := by omega
      have HFT := hid_mk (HYE.out ⟨HNX.out, HEN.out, by omega, HK0.out, fit_others fun i h1 h2 => HPK.out i h1 h2⟩)
      rw [← hbw.cell (p := ⟨g, _, none⟩) hgw] at z0 z1 z2 z3
      have HCL := hid_mk (HRG.out wr hbw)
      have hr0 := right_ok (T.kids 0) (x + ((T.len : Int) - 1)) (by omega)
      clear hbr hbw hpk
      go_wp2
      rename World => wo
      obtain ⟨R, hR⟩ : ∃ R, rightT (T.kids 0) (x + ((T.len : Int) - 1)) = R := ⟨_, rfl⟩
      rw [hR] at HCL HFT hr0
      have hxl : 0 < x + ((T.len : Int) - 1) := by omega
      clear hR
      go_loopw [1, 9] (fun p i wr => ((i = .int .i64 0 ∧ p = .int .i64 (x + ((T.len : Int) - 1)) ∧ wr = wo) ∨ (i = .int .i64 1 ∧ p = .int .i64 R ∧ Below wo.heap.size wo wr))) (fun _ i _ => 1 - (intOf i).toNat)
      case atStart => exact .inl ⟨rfl, rfl, rfl⟩
      case round =>
        rcases hrel with ⟨rfl, rfl, rfl⟩ | ⟨rfl, rfl, hbo⟩
        · go_wp2_with (go_at_call 30; refine HCL.out.mono ?_; rintro e w1 ⟨rfl, hb1⟩; have HB1 := hid_mk hb1; clear hb1)
          go_roundw
          case rel => exact .inr ⟨by go_num, rfl, HB1.out⟩
          case measure => simp [intOf]
        · have HBO := hid_mk (HBW.out.trans (hbo.mono (by have := HZ0.out; omega)))
          clear hbo
          go_wp2
          go_ret
          exact ⟨ret_in HFT.out.symm, HBO.out⟩

theorem rightS_any (T : Nd) : RgC T := by
  induction T with
  | nil => exact right_no _ (by show ¬ (0 : Int) = 30; omega) fun i hi => absurd hi (Nat.not_lt_zero i)
  | mk k n s len kids ih =>
    by_cases hk : k = 30
    · exact right_yes _ hk fun i _ => ih i
    · exact right_no _ hk fun i _ => ih i
end Go.Proofs.YtjgbjahcnnjfpaaDoor
namespace Go.Proofs.YtjgbjahcnnjfpaaDoor
open Go.RowKit

def ChS (sel : Int) (T : Nd) : Prop := ∀ (w : World) (v : Value) (hi : Nat), T.Fine → hi ≤ w.heap.size → Row 0 hi w T v → T.cost ≤ 1048576 → GdT T →
  Calls Tryd.prog 32 #[T.val v, .int .i64 sel] w fun e w' => ∃ u, e = .returned ((chooseT sel T).val u) ∧ Tr w' (chooseT sel T) w.heap.size w'.heap.size u ∧ Below w.heap.size w w'

set_option maxHeartbeats 4000000 in
theorem chooseS_no (sel : Int) (T : Nd) (hk : ¬ T.kind = 30) (ih : ∀ i, i < T.len → ChS sel (T.kids i)) : ChS sel T := by
  intro w v hi hf hhi hr hcost hgd
  rw [choose_over sel T (fun h => hk h.1)]
  have hkb : (T.kind == 30) = false := by simp [hk]
  have HGK := hid_mk ((gd_eq T).1 hgd).2
  have HOV := hid_mk (over_tr sel T)
  obtain ⟨ov0, ov1, ov2, ov3, -⟩ := over_parts sel T
  have HO := hid_mk (And.intro ov0 (And.intro ov1 (And.intro ov2 ov3)))
  clear ov0 ov1 ov2 ov3 hk hgd
  have hn := T.fine_len hf
  have hce := T.cost_eq
  have hck : ∀ j, j < T.len → (T.kids j).cost ≤ 1048576 := fun j hj => Nat.le_trans (T.cost_kid hj) hcost
  have hl20 : T.len ≤ 1048576 := by omega
  have hn20 : T.name.size ≤ 1048576 := by omega
  obtain ⟨a, cap, rfl, hcap, hq⟩ := row_eq.1 hr
  obtain ⟨i0, hi0, hz0, hz1, hz2⟩ := info_parts info_nodeC
  have HI := hid_mk ih
  have HF := hid_mk hf
  have HR := hid_mk hq
  have HK := hid_mk hck
  clear hr hf ih hq hck hce hcap
  unfold Nd.val
  generalize hW0 : (w.alloc (.cells #[.int .i64 T.kind, .int .i64 T.num, .string T.name, .slice a T.len cap] 37)).alloc (.cells #[.int .i64 0, .int .i64 0, .string ⟨#[]⟩, .slice none 0 0] 37) = W0
  have hb0 : Hid (Below w.heap.size w W0) := by rw [← hW0]; exact ((Below.refl _ _).alloc (Nat.le_refl _) _).alloc (by simp) _
  have hz0' : W0.heap.size = w.heap.size + 1 + 1 := by rw [← hW0]; simp
  have HC0 : Hid ((W0.cell? ⟨w.heap.size, 0, none⟩ = some (.int .i64 T.kind) ∧ W0.cell? ⟨w.heap.size, 1, none⟩ = some (.int .i64 T.num) ∧ W0.cell? ⟨w.heap.size, 2, none⟩ = some (.string T.name) ∧ W0.cell? ⟨w.heap.size, 3, none⟩ = some (.slice a T.len cap)) ∧
      (W0.cell? ⟨w.heap.size + 1, 0, none⟩ = some (.int .i64 0) ∧ W0.cell? ⟨w.heap.size + 1, 1, none⟩ = some (.int .i64 0) ∧ W0.cell? ⟨w.heap.size + 1, 2, none⟩ = some (.string ⟨#[]⟩) ∧ W0.cell? ⟨w.heap.size + 1, 3, none⟩ = some (.slice none 0 0)) ∧ ∀ o, W0.frozen? ⟨w.heap.size + 1, o, none⟩ = false) := by
    rw [← hW0]; unfold Hid; simp [go_sem]
  have HW0 := hid_mk hW0
  have HZ0 := hid_mk hz0'
  clear hW0 hz0'
  go_enter Tryd.func32, Tryd.ntmps32
  go_wp2
  rw [HW0.out]
  go_loopw [6, 7] (fun kv i wr => ∃ (j : Nat) (sa : Option Addr) (sc : Nat) (us : Nat → Value) (s e : Nat → Nat), j ≤ T.len ∧ i = .int .i64 j ∧ kv = .slice sa j sc ∧ CpI (mapN T (fun i => chooseT sel (T.kids i))) W0 j (.slice sa j sc) us s e wr) (fun _ i _ => T.len - (intOf i).toNat)
  case atStart =>
    have hh := World.ownsRow_made (base := W0.heap.size) (e := 37) (size := 4) W0 #[] 0 (Nat.le_refl _) (by unfold maxLen; omega) (by simp)
    exact ⟨0, _, _, _, _, _, Nat.zero_le _, rfl, rfl, CpI.start (mapN T (fun i => chooseT sel (T.kids i))) (by have h2 := hh; rw [HZ0.out] at h2 ⊢; simpa using h2) ((Below.refl _ _).alloc (Nat.le_refl _) _)⟩
  case round =>
    obtain ⟨j, sa, sc, us, s, e, hj, rfl, rfl, hcp⟩ := hrel
    have HCP := hid_mk hcp
    have hz := hcp.below.size
    have HZ := hid_mk (show w.heap.size + 1 + 1 ≤ wr.heap.size by have := HZ0.out; omega)
    by_cases hlt : j < T.len
    · rcases HR.out with h0 | ⟨g, off, rfl, h1, h2, h3⟩
      · omega
      obtain ⟨x, e0, e1, e2, e3, hx⟩ := h3 j hlt
      have hgl : g < w.heap.size := by omega
      have hbw := hb0.out.trans (hcp.below.mono (by have := HZ0.out; omega))
      rw [← hbw.cell (p := ⟨g, _, none⟩) hgl] at e0 e1 e2 e3
      have HX := hid_mk (row_below hbw hhi hx)
      obtain ⟨xa, xc, rfl⟩ : ∃ xa xc, x = .slice xa (T.kids j).len xc := by obtain ⟨a', c', h, _⟩ := row_eq.1 hx; exact ⟨a', c', h⟩
      have hkc := HK.out j hlt
      have HC := HI.out j hlt
      have HFJ := hid_mk (Nd.fine_kid HF.out hlt)
      unfold ChS at HC
      have HCC := hid_mk HC
      have hjl : (j : Int) < (T.len : Int) := by omega
      have k3 : wr.cell? ⟨w.heap.size, 3, none⟩ = some (.slice (some ⟨g, off, none⟩) T.len cap) := (hcp.below.cell (p := ⟨w.heap.size, 3, none⟩) (show w.heap.size < W0.heap.size by have := HZ0.out; omega)).trans HC0.out.1.2.2.2
      have HKJ := hid_mk (rfl : T.kids j = T.kids j)
      unfold Nd.val at HCC
      clear h3 HC hx hcp hbw
      go_wp2_with (first
        | (go_at_call 32; refine (HCC.out _ _ hi HFJ.out (by have := HZ.out; omega) HX.out hkc (HGK.out j hlt)).mono ?_; rintro e w1 ⟨u1, rfl, ht1, hb1⟩; obtain ⟨a1, p1, rfl⟩ := tr_shape ht1; have HT1 := hid_mk ht1; have HB1 := hid_mk hb1; clear ht1 hb1)
        | (at_builtin; refine wpList_append_freshG _ rfl _ _ 35 rfl W0.heap.size 37 i0 (.agg #[.int .i64 0, .int .i64 0, .string ⟨#[]⟩, .slice none 0 0]) 4 56 Tryd.underlying35 hi0 hz0 hz1 hz2 rfl (by decide) _ j _ rfl ((HCP.out.later HB1.out).own.alloc _) ⟨w1.heap.size, 0, none⟩ 1 1 [.int .i64 (chooseT sel (T.kids j)).kind, .int .i64 (chooseT sel (T.kids j)).num, .string (chooseT sel (T.kids j)).name, .slice a1 (chooseT sel (T.kids j)).len p1] rfl rfl (four_new _ _ _ _ _ _) (four_one _ _ _ _ _ _) (by unfold maxLen; omega) (by omega) (by have := (HCP.out.later HB1.out).below.size; simp; omega) ?_; intro v' w3 hown hgrow hloc hsh))
      obtain ⟨sa', sc', rfl⟩ := hsh.out
      have hst := HCP.out.step HB1.out HT1.out ((Below.refl _ _).alloc (Nat.le_refl _) _) hown.out hgrow.out hloc.out
      exact ⟨⟨j + 1, sa', sc', _, _, _, by omega, by go_num, rfl, hst⟩, by simp [intOf]; omega⟩
    · obtain rfl : j = T.len := by omega
      obtain ⟨⟨c0, c1, c2, c3⟩, ⟨d0, d1, d2, d3⟩, hfz⟩ := HC0.out
      have hc : ∀ b o, b < w.heap.size + 1 + 1 → wr.cell? ⟨b, o, none⟩ = W0.cell? ⟨b, o, none⟩ := fun b o h => hcp.below.cell (p := ⟨b, o, none⟩) (show b < W0.heap.size by have := HZ0.out; omega)
      rw [← hc _ _ (by omega)] at c0 c1 c2 c3
      rw [← hc _ _ (by omega)] at d0 d1 d2 d3
      have hfz' : ∀ o, wr.frozen? ⟨w.heap.size + 1, o, none⟩ = false := fun o => (hcp.below.frozen (p := ⟨w.heap.size + 1, o, none⟩) (show w.heap.size + 1 < W0.heap.size by have := HZ0.out; omega)).trans (hfz o)
      have hzw := HZ.out
      have hza : w.heap.size < wr.heap.size := by omega
      have hzb : w.heap.size + 1 < wr.heap.size := by omega
      clear hc hfz hcp
      go_wp2_with fail
      refine (node_of _ _ _ _ _ _ _).mono ?_
      rintro e w4 ⟨rfl, hb4⟩
      obtain ⟨g4, f4⟩ := bcellO hb4
      rw [← g4 _ _ hzb] at d0 d1 d2 d3
      have hfz4 : ∀ o, w4.frozen? ⟨w.heap.size + 1, o, none⟩ = false := fun o => (f4 _ _ hzb).trans (hfz' o)
      have HB4 := hid_mk hb4
      clear hfz' c0 c1 c2 c3 g4 f4 hb4
      obtain ⟨p0, p1, p2, p3, _, po, ps, pf⟩ := store4C w4 (w.heap.size + 1) (.int .i64 T.kind) (.int .i64 T.num) (.string T.name) (.slice sa T.len sc) ⟨_, d0⟩ ⟨_, d1⟩ ⟨_, d2⟩ ⟨_, d3⟩
      have HBV : Hid (Below w.heap.size w ((((w4.setCell ⟨w.heap.size + 1, 0, none⟩ (.int .i64 T.kind)).setCell ⟨w.heap.size + 1, 1, none⟩ (.int .i64 T.num)).setCell ⟨w.heap.size + 1, 2, none⟩ (.string T.name)).setCell ⟨w.heap.size + 1, 3, none⟩ (.slice sa T.len sc))) := by
        have hx := hb0.out.trans ((HCP.out.below.trans (HB4.out.mono hz)).mono (by have := HZ0.out; omega))
        exact (((hx.setCell (p := ⟨w.heap.size + 1, 0, none⟩) (Nat.le_succ _) _).setCell (p := ⟨w.heap.size + 1, 1, none⟩) (Nat.le_succ _) _).setCell (p := ⟨w.heap.size + 1, 2, none⟩) (Nat.le_succ _) _).setCell (p := ⟨w.heap.size + 1, 3, none⟩) (Nat.le_succ _) _
      have HTR : Hid (Tr ((((w4.setCell ⟨w.heap.size + 1, 0, none⟩ (.int .i64 T.kind)).setCell ⟨w.heap.size + 1, 1, none⟩ (.int .i64 T.num)).setCell ⟨w.heap.size + 1, 2, none⟩ (.string T.name)).setCell ⟨w.heap.size + 1, 3, none⟩ (.slice sa T.len sc)) (overT sel T) w.heap.size w4.heap.size (.slice sa T.len sc)) :=
        tr_wide (tr_keep (fun k k1 k2 => po k (by have := HZ0.out; omega)) (tr_below (HOV.out _ _ _ _ (CpI.done (T := mapN T (fun i => chooseT sel (T.kids i))) HCP.out)) HB4.out (Nat.le_refl _))) (by have := HZ0.out; omega) HB4.out.size
      have HPO := hid_mk po
      have HPS := hid_mk ps
      clear po ps pf
      go_wp2
      obtain ⟨ov0, ov1, ov2, ov3⟩ := HO.out
      refine bodyPost_ret (v := .agg #[.int .i64 T.kind, .int .i64 T.num, .string T.name, .slice sa T.len sc]) (by simp [results, Tryd.results32, go_sem, p0, p1, p2, p3]) rfl ⟨.slice sa T.len sc, ?_, by rw [HPS.out]; exact HTR.out, HBV.out⟩
      rw [ov0, ov1, ov2]


set_option maxHeartbeats 4000000 in
theorem chooseS_yes (sel : Int) (hs0 : 0 ≤ sel) (hs1 : sel ≤ 10000000) (T : Nd) (hk : T.kind = 30) (ih : ∀ i, i < T.len → ChS sel (T.kids i)) : ChS sel T := by
  intro w v hi hf hhi hr hcost hgd
  obtain ⟨hg1, hg2⟩ := (gd_eq T).1 hgd
  obtain ⟨hl, ⟨hn0, hn1⟩, hnk⟩ := hg1 hk
  have hn := T.fine_len hf
  have hkl := pickK_lt (num := T.num) (sel := sel) hl
  rw [choose_pick sel T hk hl]
  have hkb : (T.kind == 30) = true := by simp [hk]
  have hl' : (0 : Int) < (T.len : Int) := by omega
  obtain ⟨a, cap, rfl, hcap, hq⟩ := row_eq.1 hr
  rcases hq with h0 | ⟨g, off, rfl, hg0, hg1', hq⟩
  · omega
  obtain ⟨x, e0, e1, e2, e3, hx⟩ := hq _ hkl
  obtain ⟨xa, xc, rfl⟩ : ∃ xa xc, x = .slice xa (T.kids (pickK T.num sel T.len)).len xc := by obtain ⟨a', c', h, _⟩ := row_eq.1 hx; exact ⟨a', c', h⟩
  have hgw : g < w.heap.size := by omega
  have HCC := hid_mk (fun (W : World) (hb : Below w.heap.size w W) => ih _ hkl W (.slice xa (T.kids (pickK T.num sel T.len)).len xc) hi (Nd.fine_kid hf hkl) (Nat.le_trans hhi hb.size) (row_below hb hhi hx) (Nat.le_trans (T.cost_kid hkl) hcost) (hg2 _ hkl))
  unfold Nd.val at HCC
  generalize hC : chooseT sel (T.kids (pickK T.num sel T.len)) = C at *
  have HPK := hid_mk (show pickK T.num sel T.len = (if T.num ≤ sel ∧ sel - T.num < (T.len : Int) - 1 then (sel - T.num + 1).toNat else 0) from rfl)
  clear ih hgd hr hf hq hg1 hg2 hnk hk hx hC
  unfold Nd.val
  generalize hW0 : (w.alloc (.cells #[.int .i64 T.kind, .int .i64 T.num, .string T.name, .slice (some ⟨g, off, none⟩) T.len cap] 37)).alloc (.cells #[.int .i64 0, .int .i64 0, .string ⟨#[]⟩, .slice none 0 0] 37) = W0
  have HB0 : Hid (Below w.heap.size w W0) := by rw [← hW0]; exact ((Below.refl _ _).alloc (Nat.le_refl _) _).alloc (by simp) _
  have HZ0 : Hid (W0.heap.size = w.heap.size + 1 + 1) := by unfold Hid; rw [← hW0]; simp
  have HD0 : Hid ((W0.cell? ⟨w.heap.size + 1, 0, none⟩ = some (.int .i64 0) ∧ W0.cell? ⟨w.heap.size + 1, 1, none⟩ = some (.int .i64 0) ∧ W0.cell? ⟨w.heap.size + 1, 2, none⟩ = some (.string ⟨#[]⟩) ∧ W0.cell? ⟨w.heap.size + 1, 3, none⟩ = some (.slice none 0 0)) ∧ ∀ o, W0.frozen? ⟨w.heap.size + 1, o, none⟩ = false) := by
    rw [← hW0]; unfold Hid; simp [go_sem]
  have HW0 := hid_mk hW0
  clear hW0
  by_cases h1 : T.num ≤ sel
  · by_cases h2 : sel - T.num < (T.len : Int) - 1
    · have hp : pickK T.num sel T.len = (sel - T.num + 1).toNat := by rw [HPK.out, if_pos ⟨h1, h2⟩]
      clear HPK
      rw [hp] at e0 e1 e2 e3 hkl HCC
      have hk1 : 0 ≤ sel - T.num + 1 := by omega
      have hk2 : sel - T.num + 1 < (T.len : Int) := by omega
      generalize T.kids (sel - T.num + 1).toNat = K at *
      clear hp
      go_enter Tryd.func32, Tryd.ntmps32
      go_wp2_with fail
      rw [HW0.out]
      refine (HCC.out _ HB0.out).mono ?_
      rintro e w4 ⟨u, rfl, htr, hb4⟩
      obtain ⟨sa, sc, rfl⟩ := tr_shape htr
      have hz4 := hb4.size
      have hlt : w.heap.size + 1 < W0.heap.size := by have := HZ0.out; omega
      obtain ⟨⟨d0, d1, d2, d3⟩, hfd⟩ := HD0.out
      rw [← hb4.cell (p := ⟨w.heap.size + 1, _, none⟩) hlt] at d0 d1 d2 d3
      have hfz4 : ∀ o, w4.frozen? ⟨w.heap.size + 1, o, none⟩ = false := fun o => (hb4.frozen (p := ⟨w.heap.size + 1, o, none⟩) hlt).trans (hfd o)
      have HB4 := hid_mk (HB0.out.trans (hb4.mono (by omega)))
      have HT4 := hid_mk htr
      have hzz := HZ0.out
      clear htr hb4 hfd
      go_wp2
      obtain ⟨p0, p1, p2, p3, _, po, ps, pf⟩ := store4C w4 (w.heap.size + 1) (.int .i64 C.kind) (.int .i64 C.num) (.string C.name) (.slice sa C.len sc) ⟨_, d0⟩ ⟨_, d1⟩ ⟨_, d2⟩ ⟨_, d3⟩
      have hbV : Below w.heap.size w ((((w4.setCell ⟨w.heap.size + 1, 0, none⟩ (.int .i64 C.kind)).setCell ⟨w.heap.size + 1, 1, none⟩ (.int .i64 C.num)).setCell ⟨w.heap.size + 1, 2, none⟩ (.string C.name)).setCell ⟨w.heap.size + 1, 3, none⟩ (.slice sa C.len sc)) :=
        (((HB4.out.setCell (p := ⟨w.heap.size + 1, 0, none⟩) (Nat.le_succ _) _).setCell (p := ⟨w.heap.size + 1, 1, none⟩) (Nat.le_succ _) _).setCell (p := ⟨w.heap.size + 1, 2, none⟩) (Nat.le_succ _) _).setCell (p := ⟨w.heap.size + 1, 3, none⟩) (Nat.le_succ _) _
      have htr : Tr ((((w4.setCell ⟨w.heap.size + 1, 0, none⟩ (.int .i64 C.kind)).setCell ⟨w.heap.size + 1, 1, none⟩ (.int .i64 C.num)).setCell ⟨w.heap.size + 1, 2, none⟩ (.string C.name)).setCell ⟨w.heap.size + 1, 3, none⟩ (.slice sa C.len sc)) C w.heap.size w4.heap.size (.slice sa C.len sc) :=
        tr_wide (tr_keep (fun k k1 k2 => po k (by omega)) HT4.out) (by omega) (Nat.le_refl _)
      revert p0 p1 p2 p3 po ps pf hbV htr
      generalize (((w4.setCell ⟨w.heap.size + 1, 0, none⟩ (.int .i64 C.kind)).setCell ⟨w.heap.size + 1, 1, none⟩ (.int .i64 C.num)).setCell ⟨w.heap.size + 1, 2, none⟩ (.string C.name)).setCell ⟨w.heap.size + 1, 3, none⟩ (.slice sa C.len sc) = X
      intro p0 p1 p2 p3 po ps pf hbV htr
      exact bodyPost_ret (v := .agg #[.int .i64 C.kind, .int .i64 C.num, .string C.name, .slice sa C.len sc]) (by simp [results, Tryd.results32, go_sem, p0, p1, p2, p3]) rfl ⟨.slice sa C.len sc, rfl, by rw [ps]; exact htr, hbV⟩
    · have hp : pickK T.num sel T.len = 0 := by rw [HPK.out, if_neg (by omega)]
      clear HPK
      rw [hp] at e0 e1 e2 e3 hkl HCC
      simp only [Nat.zero_mul, Nat.add_zero] at e0 e1 e2 e3
      generalize T.kids 0 = K at *
      clear hp
      go_enter Tryd.func32, Tryd.ntmps32
      go_wp2_with fail
      rw [HW0.out]
      refine (HCC.out _ HB0.out).mono ?_
      rintro e w4 ⟨u, rfl, htr, hb4⟩
      obtain ⟨sa, sc, rfl⟩ := tr_shape htr
      have hz4 := hb4.size
      have hlt : w.heap.size + 1 < W0.heap.size := by have := HZ0.out; omega
      obtain ⟨⟨d0, d1, d2, d3⟩, hfd⟩ := HD0.out
      rw [← hb4.cell (p := ⟨w.heap.size + 1, _, none⟩) hlt] at d0 d1 d2 d3
      have hfz4 : ∀ o, w4.frozen? ⟨w.heap.size + 1, o, none⟩ = false := fun o => (hb4.frozen (p := ⟨w.heap.size + 1, o, none⟩) hlt).trans (hfd o)
      have HB4 := hid_mk (HB0.out.trans (hb4.mono (by omega)))
      have HT4 := hid_mk htr
      have hzz := HZ0.out
      clear htr hb4 hfd
      go_wp2
      obtain ⟨p0, p1, p2, p3, _, po, ps, pf⟩ := store4C w4 (w.heap.size + 1) (.int .i64 C.kind) (.int .i64 C.num) (.string C.name) (.slice sa C.len sc) ⟨_, d0⟩ ⟨_, d1⟩ ⟨_, d2⟩ ⟨_, d3⟩
      have hbV : Below w.heap.size w ((((w4.setCell ⟨w.heap.size + 1, 0, none⟩ (.int .i64 C.kind)).setCell ⟨w.heap.size + 1, 1, none⟩ (.int .i64 C.num)).setCell ⟨w.heap.size + 1, 2, none⟩ (.string C.name)).setCell ⟨w.heap.size + 1, 3, none⟩ (.slice sa C.len sc)) :=
        (((HB4.out.setCell (p := ⟨w.heap.size + 1, 0, none⟩) (Nat.le_succ _) _).setCell (p := ⟨w.heap.size + 1, 1, none⟩) (Nat.le_succ _) _).setCell (p := ⟨w.heap.size + 1, 2, none⟩) (Nat.le_succ _) _).setCell (p := ⟨w.heap.size + 1, 3, none⟩) (Nat.le_succ _) _
      have htr : Tr ((((w4.setCell ⟨w.heap.size + 1, 0, none⟩ (.int .i64 C.kind)).setCell ⟨w.heap.size + 1, 1, none⟩ (.int .i64 C.num)).setCell ⟨w.heap.size + 1, 2, none⟩ (.string C.name)).setCell ⟨w.heap.size + 1, 3, none⟩ (.slice sa C.len sc)) C w.heap.size w4.heap.size (.slice sa C.len sc) :=
        tr_wide (tr_keep (fun k k1 k2 => po k (by omega)) HT4.out) (by omega) (Nat.le_refl _)
      revert p0 p1 p2 p3 po ps pf hbV htr
      generalize (((w4.setCell ⟨w.heap.size + 1, 0, none⟩ (.int .i64 C.kind)).setCell ⟨w.heap.size + 1, 1, none⟩ (.int .i64 C.num)).setCell ⟨w.heap.size + 1, 2, none⟩ (.string C.name)).setCell ⟨w.heap.size + 1, 3, none⟩ (.slice sa C.len sc) = X
      intro p0 p1 p2 p3 po ps pf hbV htr
      exact bodyPost_ret (v := .agg #[.int .i64 C.kind, .int .i64 C.num, .string C.name, .slice sa C.len sc]) (by simp [results, Tryd.results32, go_sem, p0, p1, p2, p3]) rfl ⟨.slice sa C.len sc, rfl, by rw [ps]; exact htr, hbV⟩
  · have hp : pickK T.num sel T.len = 0 := by rw [HPK.out, if_neg (by omega)]
    clear HPK
    rw [hp] at e0 e1 e2 e3 hkl HCC
    simp only [Nat.zero_mul, Nat.add_zero] at e0 e1 e2 e3
    generalize T.kids 0 = K at *
    clear hp
    go_enter Tryd.func32, Tryd.ntmps32
    go_wp2_with fail
    rw [HW0.out]
    refine (HCC.out _ HB0.out).mono ?_
    rintro e w4 ⟨u, rfl, htr, hb4⟩
    obtain ⟨sa, sc, rfl⟩ := tr_shape htr
    have hz4 := hb4.size
    have hlt : w.heap.size + 1 < W0.heap.size := by have := HZ0.out; omega
    obtain ⟨⟨d0, d1, d2, d3⟩, hfd⟩ := HD0.out
    rw [← hb4.cell (p := ⟨w.heap.size + 1, _, none⟩) hlt] at d0 d1 d2 d3
    have hfz4 : ∀ o, w4.frozen? ⟨w.heap.size + 1, o, none⟩ = false := fun o => (hb4.frozen (p := ⟨w.heap.size + 1, o, none⟩) hlt).trans (hfd o)
    have HB4 := hid_mk (HB0.out.trans (hb4.mono (by omega)))
    have HT4 := hid_mk htr
    have hzz := HZ0.out
    clear htr hb4 hfd
    go_wp2
    obtain ⟨p0, p1, p2, p3, _, po, ps, pf⟩ := store4C w4 (w.heap.size + 1) (.int .i64 C.kind) (.int .i64 C.num) (.string C.name) (.slice sa C.len sc) ⟨_, d0⟩ ⟨_, d1⟩ ⟨_, d2⟩ ⟨_, d3⟩
    have hbV : Below w.heap.size w ((((w4.setCell ⟨w.heap.size + 1, 0, none⟩ (.int .i64 C.kind)).setCell ⟨w.heap.size + 1, 1, none⟩ (.int .i64 C.num)).setCell ⟨w.heap.size + 1, 2, none⟩ (.string C.name)).setCell ⟨w.heap.size + 1, 3, none⟩ (.slice sa C.len sc)) :=
      (((HB4.out.setCell (p := ⟨w.heap.size + 1, 0, none⟩) (Nat.le_succ _) _).setCell (p := ⟨w.heap.size + 1, 1, none⟩) (Nat.le_succ _) _).setCell (p := ⟨w.heap.size + 1, 2, none⟩) (Nat.le_succ _) _).setCell (p := ⟨w.heap.size + 1, 3, none⟩) (Nat.le_succ _) _
    have htr : Tr ((((w4.setCell ⟨w.heap.size + 1, 0, none⟩ (.int .i64 C.kind)).setCell ⟨w.heap.size + 1, 1, none⟩ (.int .i64 C.num)).setCell ⟨w.heap.size + 1, 2, none⟩ (.string C.name)).setCell ⟨w.heap.size + 1, 3, none⟩ (.slice sa C.len sc)) C w.heap.size w4.heap.size (.slice sa C.len sc) :=
      tr_wide (tr_keep (fun k k1 k2 => po k (by omega)) HT4.out) (by omega) (Nat.le_refl _)
    revert p0 p1 p2 p3 po ps pf hbV htr
    generalize (((w4.setCell ⟨w.heap.size + 1, 0, none⟩ (.int .i64 C.kind)).setCell ⟨w.heap.size + 1, 1, none⟩ (.int .i64 C.num)).setCell ⟨w.heap.size + 1, 2, none⟩ (.string C.name)).setCell ⟨w.heap.size + 1, 3, none⟩ (.slice sa C.len sc) = X
    intro p0 p1 p2 p3 po ps pf hbV htr
    exact bodyPost_ret (v := .agg #[.int .i64 C.kind, .int .i64 C.num, .string C.name, .slice sa C.len sc]) (by simp [results, Tryd.results32, go_sem, p0, p1, p2, p3]) rfl ⟨.slice sa C.len sc, rfl, by rw [ps]; exact htr, hbV⟩

theorem chooseS_any (sel : Int) (hs0 : 0 ≤ sel) (hs1 : sel ≤ 10000000) (T : Nd) : ChS sel T := by
  induction T with
  | nil => exact chooseS_no sel _ (by show ¬ (0 : Int) = 30; omega) fun i hi => absurd hi (Nat.not_lt_zero i)
  | mk k n s len kids ih =>
    by_cases hk : k = 30
    · exact chooseS_yes sel hs0 hs1 _ hk fun i _ => ih i
    · exact chooseS_no sel _ hk fun i _ => ih i
end Go.Proofs.YtjgbjahcnnjfpaaDoor
