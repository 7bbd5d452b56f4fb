/- The specification's Within. -/
import Derived.Test.YtnjidekfmmebiaaDoorSwRow
import Derived.Test.YtnjidekfmmebiaaDoorSeSpec
set_option linter.unusedVariables false
namespace Go.Proofs.YtnjidekfmmebiaaDoor
open Go.RowKit

/-- Is like one of these. -/
def hitB (a : Sn) (ys : List Sn) : Bool := ys.any (sameB a)
/-- The place of the first that is like none. -/
def miss (xs ys : List Sn) : Option Nat := xs.findIdx? (fun a => !hitB a ys)
theorem miss_none {xs ys : List Sn} (h : ∀ k (hk : k < xs.length), hitB xs[k] ys = true) : miss xs ys = none := by
  unfold miss
  rw [List.findIdx?_eq_none_iff]
  intro x hx
  obtain ⟨k, hk, rfl⟩ := List.mem_iff_getElem.1 hx
  simp [h k hk]
theorem miss_some {xs ys : List Sn} {i : Nat} (hi : i < xs.length) (h : ∀ k (hk : k < xs.length), k < i → hitB xs[k] ys = true) (hn : hitB xs[i] ys = false) : miss xs ys = some i := by
  unfold miss
  rw [List.findIdx?_eq_some_iff_getElem]
  exact ⟨hi, by simp [hn], fun j hj => by simp [h j (by omega) hj]⟩
theorem any_succ (ys : List Sn) (a : Sn) (k : Nat) (h : k < ys.length) : (ys.take (k + 1)).any (sameB a) = ((ys.take k).any (sameB a) || sameB a ys[k]) := by
  rw [List.take_succ_eq_append_getElem h, List.any_append]; simp
theorem any_take {ys : List Sn} {a : Sn} {k : Nat} (h : (ys.take k).any (sameB a) = true) : ys.any (sameB a) = true := by
  rw [List.any_eq_true] at *
  obtain ⟨x, hx, hs⟩ := h
  exact ⟨x, List.mem_of_mem_take hx, hs⟩
def missI (xs ys : List Sn) : Int := match miss xs ys with | some k => (k : Int) | none => -1

set_option maxHeartbeats 8000000 in
theorem spec_missing (xs ys : List Sn) (u v : Value) (la ha lb hb : Nat) (w : World) (hc : costS xs ≤ 1048576) (hd : costS ys ≤ 1048576) (hha : ha ≤ w.heap.size) (hhb : hb ≤ w.heap.size) (h : Rw la ha w xs u) (h' : Rw lb hb w ys v) :
    Calls Tryd.prog 20 #[u, v] w fun e w' => e = .returned (.int .i64 (missI xs ys)) ∧ Below w.heap.size w w' := by
  obtain ⟨a, ca, rfl, hq⟩ := h
  obtain ⟨b, cb, rfl, hq'⟩ := h'
  have hl20 : xs.length ≤ 1048576 := Nat.le_trans (len_cost xs) hc
  have hl21 : ys.length ≤ 1048576 := Nat.le_trans (len_cost ys) hd
  have HQ := hid_mk hq
  have HQ' := hid_mk hq'
  have HC := hid_mk (fun i (hi : i < xs.length) => Nat.le_trans (cost_at xs i hi) hc)
  have HD := hid_mk (fun i (hi : i < ys.length) => Nat.le_trans (cost_at ys i hi) hd)
  clear hq hq' hc hd
  go_enter Tryd.func20, Tryd.ntmps20
  go_wp2
  go_loopw [5] (fun i wr => ∃ j : Nat, j ≤ xs.length ∧ i = .int .i64 j ∧ Below w.heap.size w wr ∧ Hid (∀ k (hk : k < xs.length), k < j → hitB xs[k] ys = true)) (fun i _ => xs.length - (intOf i).toNat)
  case atStart => exact ⟨0, by omega, rfl, Below.refl _ _, fun k _ hk => absurd hk (Nat.not_lt_zero _)⟩
  case round =>
    obtain ⟨j, hj, rfl, hbw, hit⟩ := hrel
    by_cases hlt : j < xs.length
    · rcases HQ.out with h0 | ⟨g, off, rfl, _, hg, h3⟩
      · omega
      obtain ⟨x, y, hf, hat⟩ := h3 j hlt
      obtain ⟨xa, xc, rfl⟩ := hat.1.shape
      obtain ⟨ya, yc, rfl⟩ := hat.2.shape
      have hji : (j : Int) < (xs.length : Int) := by omega
      have HF := hid_mk hf
      have HAT := hid_mk hat
      have HSC := hid_mk (HC.out j hlt)
      have HIT1 : Hid (hitB xs[j] ys = true → ∀ k (hk : k < xs.length), k < j + 1 → hitB xs[k] ys = true) := by
        intro h k hk hkj
        by_cases e : k = j
        · subst e; exact h
        · exact hit.out k hk (by omega)
      have HIT2 : Hid (hitB xs[j] ys = false → missI xs ys = (j : Int)) := by
        intro h
        unfold missI
        rw [miss_some hlt hit.out h]
      clear h3 hf hat hit
      generalize xs[j] = s at *
      rename World => wo
      go_wp2
      go_loopw [6, 7] (fun fd i wr => ∃ k : Nat, k ≤ ys.length ∧ i = .int .i64 k ∧ fd = .bool ((ys.take k).any (sameB s)) ∧ Below w.heap.size w wr) (fun _ i _ => ys.length - (intOf i).toNat)
      case atStart => exact ⟨0, by omega, rfl, by simp, hbw⟩
      case round =>
        obtain ⟨k, hk, rfl, rfl, hbv⟩ := hrel
        have HB := hid_mk hbv
        by_cases hd : (ys.take k).any (sameB s) = true
        · have hh := any_take hd
          have H1 := hid_mk (HIT1.out hh)
          rw [hd]
          clear hd hh HIT1 HIT2 HF HAT
          by_cases hlk : k < ys.length
          · have hki : (k : Int) < (ys.length : Int) := by omega
            go_wp2
            exact ⟨⟨j + 1, by omega, by go_num, HB.out, H1.out⟩, by simp [intOf]; omega⟩
          · have hki : ¬ ((k : Int) < (ys.length : Int)) := by omega
            go_wp2
            exact ⟨⟨j + 1, by omega, by go_num, HB.out, H1.out⟩, by simp [intOf]; omega⟩
        · have hd' : (ys.take k).any (sameB s) = false := by simpa using hd
          rw [hd']
          by_cases hlk : k < ys.length
          · rcases HQ'.out with h0 | ⟨g', off', rfl, _, hg', h3'⟩
            · omega
            obtain ⟨x', y', hf', hat'⟩ := h3' k hlk
            obtain ⟨xb, xd, rfl⟩ := hat'.1.shape
            obtain ⟨yb, yd, rfl⟩ := hat'.2.shape
            obtain ⟨f0, f1, f2, f3, f4⟩ := HF.out.keep hbv (by omega)
            obtain ⟨k0, k1, k2, k3, k4⟩ := hf'.keep hbv (by omega)
            have hbz := hbv.size
            have hki : (k : Int) < (ys.length : Int) := by omega
            have C := hid_mk (spec_same s ys[k] _ _ _ _ la ha lb hb wr.drew HSC.out (HD.out k hlk) (by show ha ≤ wr.heap.size; omega) (by show hb ≤ wr.heap.size; omega) (HAT.out.below hbv hha).drew (hat'.below hbv hhb).drew)
            have HN := hid_mk (any_succ ys s k hlk)
            rw [hd', Bool.false_or] at HN
            clear h3' hf' hat' hd hd' HIT1 HIT2 HF HAT
            unfold Sn.val at C
            generalize ys[k] = t at *
            generalize sameB s t = bq at *
            go_wp2_with fail
            go_region_with (go_at_call 27; refine C.out.mono ?_; rintro e w1 ⟨rfl, hb1⟩; have B1 := hid_mk (hbv.drew.trans (hb1.mono hbv.size)); clear hb1)
            all_goals go_wp2
            all_goals exact ⟨⟨k + 1, by omega, by go_num, by rw [HN.out], B1.out⟩, by simp [intOf]; omega⟩
          · obtain rfl : k = ys.length := by omega
            rw [List.take_length] at hd'
            have H2 := hid_mk (HIT2.out hd')
            clear hd hd' HIT1 HIT2 HF HAT
            go_wp2
            go_ret
            exact ⟨by rw [H2.out]; rfl, HB.out⟩
    · obtain rfl : j = xs.length := by omega
      have e : missI xs ys = -1 := by unfold missI; rw [miss_none fun k hk => hit.out k hk hk]
      have HE := hid_mk e
      clear e hit
      go_wp2
      go_ret
      exact ⟨by rw [HE.out]; rfl, hbw⟩

/-- What Within answers. -/
def withinT (xs ys : List Sn) : Int × Int := if 4096 < xs.length ∨ 4096 < ys.length then (0, 2) else match miss xs ys with | some k => ((k : Int), 0) | none => (0, 12)

set_option maxHeartbeats 4000000 in
theorem spec_within (xs ys : List Sn) (u v : Value) (la ha lb hb : Nat) (w : World) (hc : costS xs ≤ 1048576) (hd : costS ys ≤ 1048576) (hha : ha ≤ w.heap.size) (hhb : hb ≤ w.heap.size) (h : Rw la ha w xs u) (h' : Rw lb hb w ys v) :
    Calls Tryd.prog 6 #[u, v] w fun e w' => e = .returned (.tuple #[.int .i64 (withinT xs ys).1, .int .i64 (withinT xs ys).2]) ∧ Below w.heap.size w w' := by
  have hl20 : xs.length ≤ 1048576 := Nat.le_trans (len_cost xs) hc
  have hl21 : ys.length ≤ 1048576 := Nat.le_trans (len_cost ys) hd
  have C := hid_mk (spec_missing xs ys u v la ha lb hb w hc hd hha hhb h h')
  obtain ⟨a, ca, rfl⟩ := h.shape
  obtain ⟨b, cb, rfl⟩ := h'.shape
  clear h h' hc hd
  by_cases h1 : 4096 < xs.length
  · have e : withinT xs ys = (0, 2) := by unfold withinT; rw [if_pos (.inl h1)]
    rw [e]
    have h1i : (4096 : Int) < (xs.length : Int) := by omega
    clear e C
    go_enter Tryd.func6, Tryd.ntmps6
    go_wp2
    refine bodyPost_ret (v := .tuple #[.int .i64 0, .int .i64 2]) (by simp [results, Tryd.results6, go_sem]) rfl ⟨rfl, Below.refl _ _⟩
  · have h1i : ¬ ((4096 : Int) < (xs.length : Int)) := by omega
    by_cases h2 : 4096 < ys.length
    · have e : withinT xs ys = (0, 2) := by unfold withinT; rw [if_pos (.inr h2)]
      rw [e]
      have h2i : (4096 : Int) < (ys.length : Int) := by omega
      clear e C
      go_enter Tryd.func6, Tryd.ntmps6
      go_wp2
      refine bodyPost_ret (v := .tuple #[.int .i64 0, .int .i64 2]) (by simp [results, Tryd.results6, go_sem]) rfl ⟨rfl, Below.refl _ _⟩
    · have h2i : ¬ ((4096 : Int) < (ys.length : Int)) := by omega
      unfold missI at C
      unfold withinT
      rw [if_neg (by omega)]
      cases hm : miss xs ys with
      | none =>
        rw [hm] at C
        clear hm
        go_enter Tryd.func6, Tryd.ntmps6
        go_wp2_with fail
        refine C.out.mono ?_
        rintro e w1 ⟨rfl, hb1⟩
        clear C
        go_wp2
        refine bodyPost_ret (v := .tuple #[.int .i64 0, .int .i64 12]) (by simp [results, Tryd.results6, go_sem]) rfl ⟨rfl, hb1⟩
      | some k =>
        rw [hm] at C
        clear hm
        have hk0 : ¬ ((k : Int) < 0) := by omega
        go_enter Tryd.func6, Tryd.ntmps6
        go_wp2_with fail
        refine C.out.mono ?_
        rintro e w1 ⟨rfl, hb1⟩
        clear C
        go_wp2
        refine bodyPost_ret (v := .tuple #[.int .i64 (k : Int), .int .i64 0]) (by simp [results, Tryd.results6, go_sem]) rfl ⟨rfl, hb1⟩
end Go.Proofs.YtnjidekfmmebiaaDoor
