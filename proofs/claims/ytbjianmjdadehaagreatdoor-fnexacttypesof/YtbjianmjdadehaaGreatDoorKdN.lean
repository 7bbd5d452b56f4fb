/- The specification's checker: whether a statement ends, or breaks. -/
import Derived.Test.YtbjianmjdadehaaGreatDoorKdB
import Derived.Deep.LoopGhost
import Derived.StillTailTactics
set_option linter.unusedVariables false
namespace Go.Proofs.YtbjianmjdadehaaGreatDoor
open Go.RowKit

def BrS (T : Nd) : Prop := ∀ (w : World) (v : Value) (hi : Nat), T.Fine → hi ≤ w.heap.size → Row 0 hi w T v →
  Calls Tryz.prog 69 #[T.val v] w fun e w' => e = .returned (.bool (breaksB T)) ∧ Below w.heap.size w w'
theorem breaks_eq (T : Nd) : breaksB T = if T.kind = 17 then true else if T.kind = 11 ∨ T.kind = 15 then false else anyTo (fun i => breaksB (T.kids i)) T.len := by
  cases T <;> rfl
set_option maxHeartbeats 4000000 in
set_option maxRecDepth 100000 in
theorem br_of (T : Nd) (ih : ∀ i, i < T.len → BrS (T.kids i)) : BrS T := by
  intro w v hi hf hhi hr
  have hn := T.fine_len hf
  rw [breaks_eq]
  obtain ⟨a, cap, rfl, hcap, hq⟩ := row_eq.1 hr
  have HR := hid_mk hq
  have HF := hid_mk hf
  have HIH := hid_mk ih
  unfold Nd.val
  by_cases h17 : T.kind = 17
  · rw [if_pos h17, h17]
    clear hq hr ih
    go_enter Tryz.func69, Tryz.ntmps69
    go_wp2
    go_ret
    exact ⟨rfl, (Below.refl _ _).alloc (Nat.le_refl _) _⟩
  rw [if_neg h17]
  have h17' : (T.kind == 17) = false := beq_eq_false_iff_ne.2 h17
  by_cases h11 : T.kind = 11
  · rw [if_pos (.inl h11)]
    rw [h11] at *
    clear hq hr ih
    go_enter Tryz.func69, Tryz.ntmps69
    go_wp2
    go_ret
    exact ⟨rfl, (Below.refl _ _).alloc (Nat.le_refl _) _⟩
  by_cases h15 : T.kind = 15
  · rw [if_pos (.inr h15)]
    rw [h15] at *
    clear hq hr ih
    go_enter Tryz.func69, Tryz.ntmps69
    go_wp2
    go_ret
    exact ⟨rfl, (Below.refl _ _).alloc (Nat.le_refl _) _⟩
  rw [if_neg (by omega)]
  have h11' : (T.kind == 11) = false := beq_eq_false_iff_ne.2 h11
  have h15' : (T.kind == 15) = false := beq_eq_false_iff_ne.2 h15
  clear hq hr ih h17 h11 h15 hf
  generalize hk : T.kind = tk at *
  generalize hm : T.num = tn at *
  generalize hs : T.name = ts at *
  clear hk hm hs
  have HB0 : Hid (Below w.heap.size w (w.alloc (.cells #[.int .i64 tk, .int .i64 tn, .string ts, .slice a T.len cap] 30))) := (Below.refl _ _).alloc (Nat.le_refl _) _
  go_enter Tryz.func69, Tryz.ntmps69
  go_wp2
  go_loopw [3] (fun i wr => ∃ j : Nat, j ≤ T.len ∧ i = .int .i64 j ∧ anyTo (fun i => breaksB (T.kids i)) j = false ∧ Below (w.heap.size + 1) (w.alloc (.cells #[.int .i64 tk, .int .i64 tn, .string ts, .slice a T.len cap] 30)) wr) (fun i _ => T.len - (intOf i).toNat)
  case atStart => exact ⟨0, Nat.zero_le _, rfl, rfl, by have := Below.refl (w.heap.size + 1) (w.alloc (.cells #[.int .i64 tk, .int .i64 tn, .string ts, .slice a T.len cap] 30)); exact this⟩
  case round =>
    obtain ⟨j, hj, rfl, hany, hb⟩ := hrel
    have k3 : wr.cell? ⟨w.heap.size, 3, none⟩ = some (.slice a T.len cap) := by
      rw [hb.cell (p := ⟨w.heap.size, 3, none⟩) (by show w.heap.size < _; omega)]; simp
    have hbx : w.heap.size + 1 ≤ wr.heap.size := by have := hb.size; simpa using this
    have HB := hid_mk hb
    have HANY := hid_mk hany
    clear hb hany
    by_cases hlt : j < T.len
    · rcases HR.out with h0 | ⟨g, off, rfl, h1, h2, h3⟩
      · omega
      obtain ⟨u, e0, e1, e2, e3, hu⟩ := h3 j hlt
      have hgl : g < w.heap.size := by omega
      have hbw2 := HB0.out.trans (HB.out.mono (Nat.le_succ _))
      rw [← hbw2.cell (p := ⟨g, _, none⟩) hgl] at e0 e1 e2 e3
      have HC := hid_mk (HIH.out j hlt wr u hi (Nd.fine_kid HF.out hlt) (by omega) (row_below hbw2 hhi hu))
      unfold Nd.val at HC
      have hjl : (j : Int) < (T.len : Int) := by omega
      clear h3 hu hbw2
      cases hbj : breaksB (T.kids j) with
      | true =>
        rw [hbj] at HC
        have HA : Hid (anyTo (fun i => breaksB (T.kids i)) T.len = true) := by
          have hall : ∀ n, j < n → anyTo (fun i => breaksB (T.kids i)) n = true := by
            intro n hn
            induction n with
            | zero => omega
            | succ n ih =>
              simp only [anyTo, Bool.or_eq_true]
              by_cases e : j = n
              · subst e; exact .inr hbj
              · exact .inl (ih (by omega))
          exact hall _ hlt
        clear hbj
        go_wp2_with (go_at_call 69; refine HC.out.mono ?_; rintro e w1 ⟨rfl, hb1⟩)
        go_ret
        exact ⟨by rw [HA.out]; rfl, HB0.out.trans ((HB.out.mono (Nat.le_succ _)).trans (hb1.mono (by omega)))⟩
      | false =>
        rw [hbj] at HC
        have HN : Hid (anyTo (fun i => breaksB (T.kids i)) (j + 1) = false) := by
          unfold Hid; simp only [anyTo, HANY.out, hbj, Bool.or_self]
        clear hbj
        go_wp2_with (go_at_call 69; refine HC.out.mono ?_; rintro e w1 ⟨rfl, hb1⟩)
        exact ⟨⟨j + 1, by omega, by go_num, HN.out, HB.out.trans (hb1.mono hbx)⟩, by simp [intOf]; omega⟩
    · go_wp2
      go_ret
      obtain rfl : j = T.len := by omega
      exact ⟨by rw [HANY.out]; rfl, HB0.out.trans (HB.out.mono (Nat.le_succ _))⟩
theorem br_any (T : Nd) : BrS T := by
  induction T with
  | nil => exact br_of _ fun i hi => absurd hi (Nat.not_lt_zero i)
  | mk k n s len kids ih => exact br_of _ fun i _ => ih i

def EnS (T : Nd) : Prop := ∀ (w : World) (v : Value) (hi : Nat), T.Fine → hi ≤ w.heap.size → Row 0 hi w T v →
  Calls Tryz.prog 51 #[T.val v] w fun e w' => e = .returned (.bool (endsB T)) ∧ Below w.heap.size w w'
theorem ends_eq (T : Nd) : endsB T = if T.kind = 12 ∨ T.kind = 21 then true else if T.kind = 4 then decide (0 < T.len) && endsB (T.kids (T.len - 1)) else if T.kind = 10 then decide (T.len = 3) && (endsB (T.kids 1) && endsB (T.kids 2)) else if T.kind = 11 then decide (T.len = 1) && !breaksB (T.kids 0) else false := by
  cases T <;> rfl
end Go.Proofs.YtbjianmjdadehaaGreatDoor
namespace Go.Proofs.YtbjianmjdadehaaGreatDoor
open Go.RowKit

theorem en_kid {T : Nd} {w : World} {hi : Nat} {v : Value} (hf : T.Fine) (hr : Row 0 hi w T v) (ih : ∀ i, i < T.len → EnS (T.kids i)) (hhi : hi ≤ w.heap.size) (h0 : T.len ≠ 0) : ∃ g off cap, v = .slice (some ⟨g, off, none⟩) T.len cap ∧ g < hi ∧ (T.len ≤ cap ∧ cap ≤ 9223372036854775807) ∧ ∀ i, i < T.len →
    ∃ u, (∀ W, Below w.heap.size w W → W.cell? ⟨g, off + i * 4, none⟩ = some (.int .i64 (T.kids i).kind) ∧ W.cell? ⟨g, off + i * 4 + 1, none⟩ = some (.int .i64 (T.kids i).num) ∧
        W.cell? ⟨g, off + i * 4 + 2, none⟩ = some (.string (T.kids i).name) ∧ W.cell? ⟨g, off + i * 4 + 3, none⟩ = some u) ∧
      ∀ W, Below w.heap.size w W → (Calls Tryz.prog 51 #[.agg #[.int .i64 (T.kids i).kind, .int .i64 (T.kids i).num, .string (T.kids i).name, u]] W fun e w' => e = .returned (.bool (endsB (T.kids i))) ∧ Below W.heap.size W w') ∧
        (Calls Tryz.prog 69 #[.agg #[.int .i64 (T.kids i).kind, .int .i64 (T.kids i).num, .string (T.kids i).name, u]] W fun e w' => e = .returned (.bool (breaksB (T.kids i))) ∧ Below W.heap.size W w') := by
  obtain ⟨g, off, cap, hv, hg, hc, hk⟩ := ck_kid hr h0
  refine ⟨g, off, cap, hv, hg, hc, fun i hi' => ?_⟩
  obtain ⟨u, h1, h2⟩ := hk i hi'
  refine ⟨u, fun W hb => h1 W (hb.mono hhi), fun W hb => ⟨?_, ?_⟩⟩
  · exact ih i hi' W u hi (Nd.fine_kid hf hi') (Nat.le_trans hhi hb.size) (row_below (hb.mono hhi) (Nat.le_refl _) h2)
  · exact br_any (T.kids i) W u hi (Nd.fine_kid hf hi') (Nat.le_trans hhi hb.size) (row_below (hb.mono hhi) (Nat.le_refl _) h2)

set_option maxHeartbeats 4000000 in
set_option maxRecDepth 100000 in
theorem en_4 {T : Nd} (hk : T.kind = 4) (ih : ∀ i, i < T.len → EnS (T.kids i)) : EnS T := by
  intro w v hi hf hhi hr
  have hn := T.fine_len hf
  rw [ends_eq, if_neg (by omega), if_pos hk]
  have HB0 := hid_mk (fun o => (Below.refl w.heap.size w).alloc (Nat.le_refl _) o)
  have hmix : Tryz.prog.follows Departure.mixedOrders = true := by kernel_rfl
  by_cases h0 : T.len = 0
  · obtain ⟨a, cap, rfl, hcap, hq⟩ := row_eq.1 hr
    unfold Nd.val
    rw [hk, h0]
    clear hr hq ih
    go_enter Tryz.func51, Tryz.ntmps51
    go_wp2
    go_ret
    exact ⟨rfl, HB0.out _⟩
  · obtain ⟨g, off, cap, rfl, hg, hcap, hkid⟩ := en_kid hf hr ih hhi h0
    obtain ⟨m, hm⟩ : ∃ m, T.len = m + 1 := ⟨T.len - 1, by omega⟩
    obtain ⟨u, hc, hcall⟩ := hkid m (by omega)
    have HC := hid_mk (hc _ (HB0.out (.cells #[.int .i64 4, .int .i64 T.num, .string T.name, .slice (some ⟨g, off, none⟩) T.len cap] 30)))
    have HE := hid_mk (fun W hb => (hcall W hb).1)
    unfold Nd.val
    rw [hk]
    have hpos : (0 : Int) < (T.len : Int) := by omega
    have e1 : T.len - 1 = m := by omega
    have e2 : decide (0 < T.len) = true := decide_eq_true (by omega)
    have hlm : (T.len : Int) - 1 = m := by omega
    have hml : m < T.len := by omega
    rw [e1, e2, Bool.true_and]
    clear hr ih hc hcall hkid hf hk e1 hm
    generalize T.len = L at *
    generalize T.kids m = M at *
    obtain ⟨c0, c1, c2, c3⟩ := HC.out
    have hgw : g < w.heap.size := by omega
    generalize endsB M = eb at *
    go_enter Tryz.func51, Tryz.ntmps51
    go_wp2_with (go_at_call 51; refine (HE.out _ (HB0.out _)).mono ?_; rintro e w1 ⟨rfl, hb1⟩)
    go_ret
    exact ⟨rfl, (HB0.out _).trans (hb1.mono (by simp))⟩
set_option maxHeartbeats 4000000 in
set_option maxRecDepth 100000 in
theorem en_10 {T : Nd} (hk : T.kind = 10) (ih : ∀ i, i < T.len → EnS (T.kids i)) : EnS T := by
  intro w v hi hf hhi hr
  have hn := T.fine_len hf
  rw [ends_eq, if_neg (by omega), if_neg (by omega), if_pos hk]
  have HB0 := hid_mk (fun o => (Below.refl w.heap.size w).alloc (Nat.le_refl _) o)
  by_cases h0 : T.len = 3
  · obtain ⟨g, off, cap, rfl, hg, hcap, hkid⟩ := en_kid hf hr ih hhi (by omega)
    obtain ⟨u1, hc1, hcall1⟩ := hkid 1 (by omega)
    obtain ⟨u2, hc2, hcall2⟩ := hkid 2 (by omega)
    have HC1 := hid_mk hc1
    have HC2 := hid_mk hc2
    have HE1 := hid_mk (fun W hb => (hcall1 W hb).1)
    have HE2 := hid_mk (fun W hb => (hcall2 W hb).1)
    unfold Nd.val
    rw [hk]
    rw [h0] at *
    have e2 : decide (3 = 3) = true := by decide
    rw [e2, Bool.true_and]
    clear hr ih hc1 hcall1 hc2 hcall2 hkid hf hk e2
    generalize T.kids 1 = M1 at *
    generalize T.kids 2 = M2 at *
    obtain ⟨c10, c11, c12, c13⟩ := HC1.out _ (HB0.out (.cells #[.int .i64 10, .int .i64 T.num, .string T.name, .slice (some ⟨g, off, none⟩) 3 cap] 30))
    simp only [Nat.one_mul] at c10 c11 c12 c13
    have hgw : g < w.heap.size := by omega
    cases hb1 : endsB M1 with
    | false =>
      rw [hb1] at HE1
      clear hb1
      go_enter Tryz.func51, Tryz.ntmps51
      go_wp2_with (go_at_call 51; refine (HE1.out _ (HB0.out _)).mono ?_; rintro e w1 ⟨rfl, hb1⟩)
      go_ret
      exact ⟨rfl, (HB0.out _).trans (hb1.mono (by simp))⟩
    | true =>
      rw [hb1] at HE1
      clear hb1
      have P1 : Hid True := trivial
      generalize endsB M2 = eb at *
      go_enter Tryz.func51, Tryz.ntmps51
      go_wp2_with (first
        | (clear P1; go_at_call 51; refine (HE1.out _ (HB0.out _)).mono ?_; rintro e w1 ⟨rfl, hb1⟩; have hbw := (HB0.out _).trans (hb1.mono (by simp)); obtain ⟨c20, c21, c22, c23⟩ := HC2.out _ hbw; have k3 : w1.cell? ⟨w.heap.size, 3, none⟩ = some (.slice (some ⟨g, off, none⟩) 3 cap) := (hb1.cell (p := ⟨w.heap.size, 3, none⟩) (by simp)).trans (by simp); have HBW := hid_mk hbw; clear hbw hb1)
        | (go_at_call 51; refine (HE2.out _ HBW.out).mono ?_; rintro e w2 ⟨rfl, hb2⟩))
      go_ret
      exact ⟨rfl, HBW.out.trans (hb2.mono HBW.out.size)⟩
  · obtain ⟨a, cap, rfl, hcap, hq⟩ := row_eq.1 hr
    unfold Nd.val
    have e2 : decide (T.len = 3) = false := decide_eq_false h0
    have e3 : ((T.len : Int) == 3) = false := beq_eq_false_iff_ne.2 (by omega)
    rw [hk, e2, Bool.false_and]
    clear hr hq ih
    go_enter Tryz.func51, Tryz.ntmps51
    go_wp2
    go_ret
    exact ⟨rfl, HB0.out _⟩
set_option maxHeartbeats 4000000 in
set_option maxRecDepth 100000 in
theorem en_11 {T : Nd} (hk : T.kind = 11) (ih : ∀ i, i < T.len → EnS (T.kids i)) : EnS T := by
  intro w v hi hf hhi hr
  have hn := T.fine_len hf
  rw [ends_eq, if_neg (by omega), if_neg (by omega), if_neg (by omega), if_pos hk]
  have HB0 := hid_mk (fun o => (Below.refl w.heap.size w).alloc (Nat.le_refl _) o)
  by_cases h0 : T.len = 1
  · obtain ⟨g, off, cap, rfl, hg, hcap, hkid⟩ := en_kid hf hr ih hhi (by omega)
    obtain ⟨u1, hc1, hcall1⟩ := hkid 0 (by omega)
    have HC1 := hid_mk hc1
    have HE1 := hid_mk (fun W hb => (hcall1 W hb).2)
    unfold Nd.val
    rw [hk]
    rw [h0] at *
    have e2 : decide (1 = 1) = true := by decide
    rw [e2, Bool.true_and]
    clear hr ih hc1 hcall1 hkid hf hk e2
    generalize T.kids 0 = M1 at *
    obtain ⟨c10, c11, c12, c13⟩ := HC1.out _ (HB0.out (.cells #[.int .i64 11, .int .i64 T.num, .string T.name, .slice (some ⟨g, off, none⟩) 1 cap] 30))
    simp only [Nat.zero_mul, Nat.add_zero] at c10 c11 c12 c13
    have hgw : g < w.heap.size := by omega
    generalize breaksB M1 = eb at *
    have hnot : ∀ (x : Bool) (w : World), (Op.unary .not (.bool x)).run Tryz.prog w = .ok (.bool (!x)) w := fun _ _ => rfl
    go_enter Tryz.func51, Tryz.ntmps51
    go_wp2_with (go_at_call 69; refine (HE1.out _ (HB0.out _)).mono ?_; rintro e w1 ⟨rfl, hb1⟩)
    go_ret
    exact ⟨rfl, (HB0.out _).trans (hb1.mono (by simp))⟩
  · obtain ⟨a, cap, rfl, hcap, hq⟩ := row_eq.1 hr
    unfold Nd.val
    have e2 : decide (T.len = 1) = false := decide_eq_false h0
    have e3 : ((T.len : Int) == 1) = false := beq_eq_false_iff_ne.2 (by omega)
    rw [hk, e2, Bool.false_and]
    clear hr hq ih
    go_enter Tryz.func51, Tryz.ntmps51
    go_wp2
    go_ret
    exact ⟨rfl, HB0.out _⟩
set_option maxHeartbeats 4000000 in
set_option maxRecDepth 100000 in
theorem en_of (T : Nd) (ih : ∀ i, i < T.len → EnS (T.kids i)) : EnS T := by
  by_cases h4 : T.kind = 4
  · exact en_4 h4 ih
  by_cases h10 : T.kind = 10
  · exact en_10 h10 ih
  by_cases h11 : T.kind = 11
  · exact en_11 h11 ih
  intro w v hi hf hhi hr
  rw [ends_eq]
  have HB0 := hid_mk (fun o => (Below.refl w.heap.size w).alloc (Nat.le_refl _) o)
  obtain ⟨a, cap, rfl, hcap, hq⟩ := row_eq.1 hr
  unfold Nd.val
  by_cases h12 : T.kind = 12
  · rw [if_pos (.inl h12), h12]
    clear hr hq ih
    go_enter Tryz.func51, Tryz.ntmps51
    go_wp2
    go_ret
    exact ⟨rfl, HB0.out _⟩
  by_cases h21 : T.kind = 21
  · rw [if_pos (.inr h21), h21]
    clear hr hq ih
    go_enter Tryz.func51, Tryz.ntmps51
    go_wp2
    go_ret
    exact ⟨rfl, HB0.out _⟩
  rw [if_neg (by omega), if_neg h4, if_neg h10, if_neg h11]
  have q4 : (T.kind == 4) = false := beq_eq_false_iff_ne.2 h4
  have q10 : (T.kind == 10) = false := beq_eq_false_iff_ne.2 h10
  have q11 : (T.kind == 11) = false := beq_eq_false_iff_ne.2 h11
  have q12 : (T.kind == 12) = false := beq_eq_false_iff_ne.2 h12
  have q21 : (T.kind == 21) = false := beq_eq_false_iff_ne.2 h21
  clear hr hq ih h4 h10 h11 h12 h21
  generalize T.kind = tk at *
  go_enter Tryz.func51, Tryz.ntmps51
  go_wp2
  go_ret
  exact ⟨rfl, HB0.out _⟩
theorem en_any (T : Nd) : EnS T := by
  induction T with
  | nil => exact en_of _ fun i hi => absurd hi (Nat.not_lt_zero i)
  | mk k n s len kids ih => exact en_of _ fun i _ => ih i
end Go.Proofs.YtbjianmjdadehaaGreatDoor
