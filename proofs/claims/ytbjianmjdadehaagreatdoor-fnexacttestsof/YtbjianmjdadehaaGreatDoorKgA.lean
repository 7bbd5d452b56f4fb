/- The program's checker: whether a statement breaks. -/
import Derived.Test.YtbjianmjdadehaaGreatDoorKdN
import Derived.StillTailTactics
set_option linter.unusedVariables false
namespace Go.Proofs.YtbjianmjdadehaaGreatDoor
open Go.RowKit

def IBrS (T : Nd) : Prop := ∀ (w : World) (v : Value) (hi : Nat), T.Fine → hi ≤ w.heap.size → Row 0 hi w T v →
  Calls Tryz.prog 98 #[T.val v] w fun e w' => e = .returned (.bool (breaksB T)) ∧ Below w.heap.size w w'

set_option maxHeartbeats 4000000 in
set_option maxRecDepth 100000 in
theorem index_of (T : Nd) (ih : ∀ i, i < T.len → IBrS (T.kids i)) (w : World) (v : Value) (hi : Nat) (hf : T.Fine) (hhi : hi ≤ w.heap.size) (hr : Row 0 hi w T v) :
    Calls Tryz.prog 126 #[v, .func (.func 98) #[] #[]] w fun e w' => (∃ i : Int, e = .returned (.int .i64 i) ∧ decide (0 ≤ i) = anyTo (fun i => breaksB (T.kids i)) T.len) ∧ Below w.heap.size w w' := by
  have hn := T.fine_len hf
  obtain ⟨a, cap, rfl, hcap, hq⟩ := row_eq.1 hr
  have HR := hid_mk hq
  have HF := hid_mk hf
  have HIH := hid_mk ih
  clear hq hr ih hf
  go_enter Tryz.func126, Tryz.ntmps126
  go_wp2
  go_loopw [8] (fun i wr => ∃ j : Nat, j ≤ T.len ∧ i = .int .i64 j ∧ anyTo (fun i => breaksB (T.kids i)) j = false ∧ Below w.heap.size w wr) (fun i _ => T.len - (intOf i).toNat)
  case atStart => exact ⟨0, Nat.zero_le _, rfl, rfl, Below.refl _ _⟩
  case round =>
    obtain ⟨j, hj, rfl, hany, hb⟩ := hrel
    have hbx : w.heap.size ≤ wr.heap.size := hb.size
    have HB := hid_mk hb
    have HANY := hid_mk hany
    clear hb hany
    by_cases hlt : j < T.len
    · rcases HR.out with h0 | ⟨g, off, rfl, h1, h2, h3⟩
      · omega
      obtain ⟨u, e0, e1, e2, e3, hu⟩ := h3 j hlt
      have hgl : g < w.heap.size := by omega
      rw [← HB.out.cell (p := ⟨g, _, none⟩) hgl] at e0 e1 e2 e3
      have HC := hid_mk (HIH.out j hlt wr u hi (Nd.fine_kid HF.out hlt) (by omega) (row_below HB.out hhi hu))
      obtain ⟨au, qu, hu2, hcu, hqu⟩ := row_eq.1 hu
      subst hu2
      unfold Nd.val at HC
      have hjl : (j : Int) < (T.len : Int) := by omega
      clear h3 hu hqu
      cases hbj : breaksB (T.kids j) with
      | true =>
        rw [hbj] at HC
        have HA : Hid (anyTo (fun i => breaksB (T.kids i)) T.len = true) := by
          have hall : ∀ n, j < n → anyTo (fun i => breaksB (T.kids i)) n = true := by
            intro n hn
            induction n with
            | zero => omega
            | succ n ih =>
              simp only [anyTo, Bool.or_eq_true]
              by_cases e : j = n
              · subst e; exact .inr hbj
              · exact .inl (ih (by omega))
          exact hall _ hlt
        clear hbj
        go_wp2_with (go_at_call 98; refine HC.out.mono ?_; rintro e w1 ⟨rfl, hb1⟩)
        go_ret
        exact ⟨⟨_, rfl, by rw [HA.out]; simp⟩, HB.out.trans (hb1.mono hbx)⟩
      | false =>
        rw [hbj] at HC
        have HN : Hid (anyTo (fun i => breaksB (T.kids i)) (j + 1) = false) := by
          unfold Hid; simp only [anyTo, HANY.out, hbj, Bool.or_self]
        clear hbj
        go_wp2_with (go_at_call 98; refine HC.out.mono ?_; rintro e w1 ⟨rfl, hb1⟩)
        exact ⟨⟨j + 1, by omega, by go_num, HN.out, HB.out.trans (hb1.mono hbx)⟩, by simp [intOf]; omega⟩
    · go_wp2
      go_ret
      obtain rfl : j = T.len := by omega
      exact ⟨⟨_, rfl, by rw [HANY.out]; simp⟩, HB.out⟩

set_option maxHeartbeats 4000000 in
set_option maxRecDepth 100000 in
theorem contains_of (T : Nd) (ih : ∀ i, i < T.len → IBrS (T.kids i)) (w : World) (v : Value) (hi : Nat) (hf : T.Fine) (hhi : hi ≤ w.heap.size) (hr : Row 0 hi w T v) :
    Calls Tryz.prog 120 #[v, .func (.func 98) #[] #[]] w fun e w' => e = .returned (.bool (anyTo (fun i => breaksB (T.kids i)) T.len)) ∧ Below w.heap.size w w' := by
  have HC := hid_mk (index_of T ih w v hi hf hhi hr)
  obtain ⟨a, cap, rfl, hcap, hq⟩ := row_eq.1 hr
  generalize anyTo (fun i => breaksB (T.kids i)) T.len = ans at *
  clear hq hr ih hf
  go_enter Tryz.func120, Tryz.ntmps120
  go_wp2_with (go_at_call 126; refine HC.out.mono ?_; rintro e w1 ⟨⟨i, rfl, rfl⟩, hb1⟩)
  go_ret
  exact ⟨rfl, hb1⟩

set_option maxHeartbeats 4000000 in
set_option maxRecDepth 100000 in
theorem ibr_of (T : Nd) (ih : ∀ i, i < T.len → IBrS (T.kids i)) : IBrS T := by
  intro w v hi hf hhi hr
  have hn := T.fine_len hf
  rw [breaks_eq]
  have HC := hid_mk (fun o => contains_of T ih (w.alloc o) v hi hf (by simp; omega) (row_below ((Below.refl _ _).alloc (Nat.le_refl _) _) hhi hr))
  obtain ⟨a, cap, rfl, hcap, hq⟩ := row_eq.1 hr
  have HB0 := hid_mk (fun o => ((Below.refl w.heap.size w).alloc (Nat.le_refl _) o))
  unfold Nd.val
  by_cases h17 : T.kind = 17
  · rw [if_pos h17, h17]
    clear hq hr ih
    go_enter Tryz.func98, Tryz.ntmps98
    go_wp2
    go_ret
    exact ⟨rfl, HB0.out _⟩
  rw [if_neg h17]
  have h17' : (T.kind == 17) = false := beq_eq_false_iff_ne.2 h17
  by_cases h11 : T.kind = 11
  · rw [if_pos (.inl h11)]
    rw [h11] at *
    clear hq hr ih
    go_enter Tryz.func98, Tryz.ntmps98
    go_wp2
    go_ret
    exact ⟨rfl, HB0.out _⟩
  by_cases h15 : T.kind = 15
  · rw [if_pos (.inr h15)]
    rw [h15] at *
    clear hq hr ih
    go_enter Tryz.func98, Tryz.ntmps98
    go_wp2
    go_ret
    exact ⟨rfl, HB0.out _⟩
  rw [if_neg (by omega)]
  have h11' : (T.kind == 11) = false := beq_eq_false_iff_ne.2 h11
  have h15' : (T.kind == 15) = false := beq_eq_false_iff_ne.2 h15
  clear hq hr ih h17 h11 h15 hf
  generalize anyTo (fun i => breaksB (T.kids i)) T.len = ans at *
  generalize T.kind = tk at *
  go_enter Tryz.func98, Tryz.ntmps98
  go_wp2_with (go_at_call 120; refine (HC.out _).mono ?_; rintro e w1 ⟨rfl, hb1⟩)
  go_ret
  exact ⟨rfl, (HB0.out _).trans (hb1.mono (by simp))⟩
theorem ibr_any (T : Nd) : IBrS T := by
  induction T with
  | nil => exact ibr_of _ fun i hi => absurd hi (Nat.not_lt_zero i)
  | mk k n s len kids ih => exact ibr_of _ fun i _ => ih i
end Go.Proofs.YtbjianmjdadehaaGreatDoor
namespace Go.Proofs.YtbjianmjdadehaaGreatDoor
open Go.RowKit

def IEnS (T : Nd) : Prop := ∀ (w : World) (v : Value) (hi : Nat), T.Fine → hi ≤ w.heap.size → Row 0 hi w T v →
  Calls Tryz.prog 83 #[T.val v] w fun e w' => e = .returned (.bool (endsB T)) ∧ Below w.heap.size w w'
theorem wrap_last {n : Nat} (h : n ≤ 1099511627776) : IntKind.i64.wrap ((n : Int) - 1) = (n : Int) - 1 := by simp [IntKind.wrap, IntKind.bits, IntKind.signed]; omega
theorem ien_kid {T : Nd} {w : World} {hi : Nat} {v : Value} (hf : T.Fine) (hr : Row 0 hi w T v) (ih : ∀ i, i < T.len → IEnS (T.kids i)) (hhi : hi ≤ w.heap.size) (h0 : T.len ≠ 0) : ∃ g off cap, v = .slice (some ⟨g, off, none⟩) T.len cap ∧ g < hi ∧ (T.len ≤ cap ∧ cap ≤ 9223372036854775807) ∧ ∀ i, i < T.len →
    ∃ u, (∀ W, Below w.heap.size w W → W.cell? ⟨g, off + i * 4, none⟩ = some (.int .i64 (T.kids i).kind) ∧ W.cell? ⟨g, off + i * 4 + 1, none⟩ = some (.int .i64 (T.kids i).num) ∧
        W.cell? ⟨g, off + i * 4 + 2, none⟩ = some (.string (T.kids i).name) ∧ W.cell? ⟨g, off + i * 4 + 3, none⟩ = some u) ∧
      ∀ W, Below w.heap.size w W → (Calls Tryz.prog 83 #[.agg #[.int .i64 (T.kids i).kind, .int .i64 (T.kids i).num, .string (T.kids i).name, u]] W fun e w' => e = .returned (.bool (endsB (T.kids i))) ∧ Below W.heap.size W w') ∧
        (Calls Tryz.prog 98 #[.agg #[.int .i64 (T.kids i).kind, .int .i64 (T.kids i).num, .string (T.kids i).name, u]] W fun e w' => e = .returned (.bool (breaksB (T.kids i))) ∧ Below W.heap.size W w') := by
  obtain ⟨g, off, cap, hv, hg, hc, hk⟩ := ck_kid hr h0
  refine ⟨g, off, cap, hv, hg, hc, fun i hi' => ?_⟩
  obtain ⟨u, h1, h2⟩ := hk i hi'
  refine ⟨u, fun W hb => h1 W (hb.mono hhi), fun W hb => ⟨?_, ?_⟩⟩
  · exact ih i hi' W u hi (Nd.fine_kid hf hi') (Nat.le_trans hhi hb.size) (row_below (hb.mono hhi) (Nat.le_refl _) h2)
  · exact ibr_any (T.kids i) W u hi (Nd.fine_kid hf hi') (Nat.le_trans hhi hb.size) (row_below (hb.mono hhi) (Nat.le_refl _) h2)

set_option maxHeartbeats 4000000 in
set_option maxRecDepth 100000 in
theorem ien_4 {T : Nd} (hk : T.kind = 4) (ih : ∀ i, i < T.len → IEnS (T.kids i)) : IEnS T := by
  intro w v hi hf hhi hr
  have hn := T.fine_len hf
  rw [ends_eq, if_neg (by omega), if_pos hk]
  have HB0 := hid_mk (fun o => (Below.refl w.heap.size w).alloc (Nat.le_refl _) o)
  have hmix : Tryz.prog.follows Departure.mixedOrders = true := by kernel_rfl
  by_cases h0 : T.len = 0
  · obtain ⟨a, cap, rfl, hcap, hq⟩ := row_eq.1 hr
    unfold Nd.val
    rw [hk, h0]
    clear hr hq ih
    go_enter Tryz.func83, Tryz.ntmps83
    go_wp2
    go_ret
    exact ⟨rfl, HB0.out _⟩
  · obtain ⟨g, off, cap, rfl, hg, hcap, hkid⟩ := ien_kid hf hr ih hhi h0
    obtain ⟨m, hm⟩ : ∃ m, T.len = m + 1 := ⟨T.len - 1, by omega⟩
    obtain ⟨u, hc, hcall⟩ := hkid m (by omega)
    have HC := hid_mk (hc _ (HB0.out (.cells #[.int .i64 4, .int .i64 T.num, .string T.name, .slice (some ⟨g, off, none⟩) T.len cap] 30)))
    have HE := hid_mk (fun W hb => (hcall W hb).1)
    unfold Nd.val
    rw [hk]
    have hpos : (0 : Int) < (T.len : Int) := by omega
    have e1 : T.len - 1 = m := by omega
    have e2 : decide (0 < T.len) = true := decide_eq_true (by omega)
    have hlm : (T.len : Int) - 1 = m := by omega
    have hml : m < T.len := by omega
    rw [e1, e2, Bool.true_and]
    clear hr ih hc hcall hkid hf hk e1 hm
    generalize T.len = L at *
    generalize T.kids m = M at *
    obtain ⟨c0, c1, c2, c3⟩ := HC.out
    have hgw : g < w.heap.size := by omega
    generalize endsB M = eb at *
    go_enter Tryz.func83, Tryz.ntmps83
    go_wp2_with (go_at_call 83; refine (HE.out _ (HB0.out _)).mono ?_; rintro e w1 ⟨rfl, hb1⟩)
    go_ret
    exact ⟨rfl, (HB0.out _).trans (hb1.mono (by simp))⟩
set_option maxHeartbeats 4000000 in
set_option maxRecDepth 100000 in
theorem ien_10 {T : Nd} (hk : T.kind = 10) (ih : ∀ i, i < T.len → IEnS (T.kids i)) : IEnS T := by
  intro w v hi hf hhi hr
  have hn := T.fine_len hf
  rw [ends_eq, if_neg (by omega), if_neg (by omega), if_pos hk]
  have HB0 := hid_mk (fun o => (Below.refl w.heap.size w).alloc (Nat.le_refl _) o)
  by_cases h0 : T.len = 3
  · obtain ⟨g, off, cap, rfl, hg, hcap, hkid⟩ := ien_kid hf hr ih hhi (by omega)
    obtain ⟨u1, hc1, hcall1⟩ := hkid 1 (by omega)
    obtain ⟨u2, hc2, hcall2⟩ := hkid 2 (by omega)
    have HC1 := hid_mk hc1
    have HC2 := hid_mk hc2
    have HE1 := hid_mk (fun W hb => (hcall1 W hb).1)
    have HE2 := hid_mk (fun W hb => (hcall2 W hb).1)
    unfold Nd.val
    rw [hk]
    rw [h0] at *
    have e2 : decide (3 = 3) = true := by decide
    rw [e2, Bool.true_and]
    clear hr ih hc1 hcall1 hc2 hcall2 hkid hf hk e2
    generalize T.kids 1 = M1 at *
    generalize T.kids 2 = M2 at *
    obtain ⟨c10, c11, c12, c13⟩ := HC1.out _ (HB0.out (.cells #[.int .i64 10, .int .i64 T.num, .string T.name, .slice (some ⟨g, off, none⟩) 3 cap] 30))
    simp only [Nat.one_mul] at c10 c11 c12 c13
    have hgw : g < w.heap.size := by omega
    cases hb1 : endsB M1 with
    | false =>
      rw [hb1] at HE1
      clear hb1
      go_enter Tryz.func83, Tryz.ntmps83
      go_wp2_with (go_at_call 83; refine (HE1.out _ (HB0.out _)).mono ?_; rintro e w1 ⟨rfl, hb1⟩)
      go_ret
      exact ⟨rfl, (HB0.out _).trans (hb1.mono (by simp))⟩
    | true =>
      rw [hb1] at HE1
      clear hb1
      have P1 : Hid True := trivial
      generalize endsB M2 = eb at *
      go_enter Tryz.func83, Tryz.ntmps83
      go_wp2_with (first
        | (clear P1; go_at_call 83; refine (HE1.out _ (HB0.out _)).mono ?_; rintro e w1 ⟨rfl, hb1⟩; have hbw := (HB0.out _).trans (hb1.mono (by simp)); obtain ⟨c20, c21, c22, c23⟩ := HC2.out _ hbw; have k3 : w1.cell? ⟨w.heap.size, 3, none⟩ = some (.slice (some ⟨g, off, none⟩) 3 cap) := (hb1.cell (p := ⟨w.heap.size, 3, none⟩) (by simp)).trans (by simp); have HBW := hid_mk hbw; clear hbw hb1)
        | (go_at_call 83; refine (HE2.out _ HBW.out).mono ?_; rintro e w2 ⟨rfl, hb2⟩))
      go_ret
      exact ⟨rfl, HBW.out.trans (hb2.mono HBW.out.size)⟩
  · obtain ⟨a, cap, rfl, hcap, hq⟩ := row_eq.1 hr
    unfold Nd.val
    have e2 : decide (T.len = 3) = false := decide_eq_false h0
    have e3 : ((T.len : Int) == 3) = false := beq_eq_false_iff_ne.2 (by omega)
    rw [hk, e2, Bool.false_and]
    clear hr hq ih
    go_enter Tryz.func83, Tryz.ntmps83
    go_wp2
    go_ret
    exact ⟨rfl, HB0.out _⟩
set_option maxHeartbeats 4000000 in
set_option maxRecDepth 100000 in
theorem ien_11 {T : Nd} (hk : T.kind = 11) (ih : ∀ i, i < T.len → IEnS (T.kids i)) : IEnS T := by
  intro w v hi hf hhi hr
  have hn := T.fine_len hf
  rw [ends_eq, if_neg (by omega), if_neg (by omega), if_neg (by omega), if_pos hk]
  have HB0 := hid_mk (fun o => (Below.refl w.heap.size w).alloc (Nat.le_refl _) o)
  by_cases h0 : T.len = 1
  · obtain ⟨g, off, cap, rfl, hg, hcap, hkid⟩ := ien_kid hf hr ih hhi (by omega)
    obtain ⟨u1, hc1, hcall1⟩ := hkid 0 (by omega)
    have HC1 := hid_mk hc1
    have HE1 := hid_mk (fun W hb => (hcall1 W hb).2)
    unfold Nd.val
    rw [hk]
    rw [h0] at *
    have e2 : decide (1 = 1) = true := by decide
    rw [e2, Bool.true_and]
    clear hr ih hc1 hcall1 hkid hf hk e2
    generalize T.kids 0 = M1 at *
    obtain ⟨c10, c11, c12, c13⟩ := HC1.out _ (HB0.out (.cells #[.int .i64 11, .int .i64 T.num, .string T.name, .slice (some ⟨g, off, none⟩) 1 cap] 30))
    simp only [Nat.zero_mul, Nat.add_zero] at c10 c11 c12 c13
    have hgw : g < w.heap.size := by omega
    generalize breaksB M1 = eb at *
    have hnot : ∀ (x : Bool) (w : World), (Op.unary .not (.bool x)).run Tryz.prog w = .ok (.bool (!x)) w := fun _ _ => rfl
    go_enter Tryz.func83, Tryz.ntmps83
    go_wp2_with (go_at_call 98; refine (HE1.out _ (HB0.out _)).mono ?_; rintro e w1 ⟨rfl, hb1⟩)
    go_ret
    exact ⟨rfl, (HB0.out _).trans (hb1.mono (by simp))⟩
  · obtain ⟨a, cap, rfl, hcap, hq⟩ := row_eq.1 hr
    unfold Nd.val
    have e2 : decide (T.len = 1) = false := decide_eq_false h0
    have e3 : ((T.len : Int) == 1) = false := beq_eq_false_iff_ne.2 (by omega)
    rw [hk, e2, Bool.false_and]
    clear hr hq ih
    go_enter Tryz.func83, Tryz.ntmps83
    go_wp2
    go_ret
    exact ⟨rfl, HB0.out _⟩
set_option maxHeartbeats 4000000 in
set_option maxRecDepth 100000 in
theorem ien_of (T : Nd) (ih : ∀ i, i < T.len → IEnS (T.kids i)) : IEnS T := by
  by_cases h4 : T.kind = 4
  · exact ien_4 h4 ih
  by_cases h10 : T.kind = 10
  · exact ien_10 h10 ih
  by_cases h11 : T.kind = 11
  · exact ien_11 h11 ih
  intro w v hi hf hhi hr
  rw [ends_eq]
  have HB0 := hid_mk (fun o => (Below.refl w.heap.size w).alloc (Nat.le_refl _) o)
  obtain ⟨a, cap, rfl, hcap, hq⟩ := row_eq.1 hr
  unfold Nd.val
  by_cases h12 : T.kind = 12
  · rw [if_pos (.inl h12), h12]
    clear hr hq ih
    go_enter Tryz.func83, Tryz.ntmps83
    go_wp2
    go_ret
    exact ⟨rfl, HB0.out _⟩
  by_cases h21 : T.kind = 21
  · rw [if_pos (.inr h21), h21]
    clear hr hq ih
    go_enter Tryz.func83, Tryz.ntmps83
    go_wp2
    go_ret
    exact ⟨rfl, HB0.out _⟩
  rw [if_neg (by omega), if_neg h4, if_neg h10, if_neg h11]
  have q4 : (T.kind == 4) = false := beq_eq_false_iff_ne.2 h4
  have q10 : (T.kind == 10) = false := beq_eq_false_iff_ne.2 h10
  have q11 : (T.kind == 11) = false := beq_eq_false_iff_ne.2 h11
  have q12 : (T.kind == 12) = false := beq_eq_false_iff_ne.2 h12
  have q21 : (T.kind == 21) = false := beq_eq_false_iff_ne.2 h21
  clear hr hq ih h4 h10 h11 h12 h21
  generalize T.kind = tk at *
  go_enter Tryz.func83, Tryz.ntmps83
  go_wp2
  go_ret
  exact ⟨rfl, HB0.out _⟩
theorem ien_any (T : Nd) : IEnS T := by
  induction T with
  | nil => exact ien_of _ fun i hi => absurd hi (Nat.not_lt_zero i)
  | mk k n s len kids ih => exact ien_of _ fun i _ => ih i
end Go.Proofs.YtbjianmjdadehaaGreatDoor
