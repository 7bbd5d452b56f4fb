/- The law's marks in a tree whose lists share no memory: what is marked is held. -/
import Derived.Test.YtjgbjahcnnjfpaaDoorMeA
import Derived.Test.YtjgbjahcnnjfpaaDoorMfA
import Derived.RegionTactic
import Derived.BigRegion
import Derived.Deep.RegionWith
set_option linter.unusedVariables false
namespace Go.Proofs.YtjgbjahcnnjfpaaDoor
open Go.RowKit

structure Kb (lo hi : Nat) (w w' : World) : Prop where
  os : w'.os = w.os
  tape : w'.tape = w.tape
  output : w'.output = w.output
  size : w.heap.size ≤ w'.heap.size
  out : ∀ k, k < w.heap.size → (k < lo ∨ hi ≤ k) → w'.heap[k]? = w.heap[k]?
theorem Kb.refl (lo hi : Nat) (w : World) : Kb lo hi w w := ⟨rfl, rfl, rfl, Nat.le_refl _, fun _ _ _ => rfl⟩
theorem Kb.trans {lo hi : Nat} {a b c : World} (h : Kb lo hi a b) (k : Kb lo hi b c) : Kb lo hi a c :=
  ⟨k.os.trans h.os, k.tape.trans h.tape, k.output.trans h.output, Nat.le_trans h.size k.size, fun i hi ho => (k.out i (Nat.lt_of_lt_of_le hi h.size) ho).trans (h.out i hi ho)⟩
theorem Kb.wide {lo hi lo' hi' : Nat} {a b : World} (h : Kb lo hi a b) (h1 : lo' ≤ lo) (h2 : hi ≤ hi') : Kb lo' hi' a b := ⟨h.os, h.tape, h.output, h.size, fun k hk ho => h.out k hk (by omega)⟩
theorem Kb.of_below {lo hi : Nat} {w w' : World} (h : Below w.heap.size w w') : Kb lo hi w w' := ⟨h.os, h.tape, h.output, h.size, fun k hk _ => h.block k hk⟩
theorem Kb.setCell (lo hi : Nat) (w : World) (g o : Nat) (v : Value) (h1 : lo ≤ g) (h2 : g < hi) : Kb lo hi w (w.setCell ⟨g, o, none⟩ v) :=
  ⟨rfl, rfl, rfl, by simp [World.setCell], fun k hk ho => Below.heap_setCell _ _ _ _ (by show k ≠ g; omega)⟩
theorem Kb.below {lo hi : Nat} {w w' : World} (h : Kb lo hi w w') {B : Nat} (hB : B ≤ lo) (hlo : lo ≤ w.heap.size) : Below B w w' := ⟨h.os, h.tape, h.output, h.size, fun k hk => h.out k (by omega) (.inl (by omega))⟩

def kAt (T : Nd) (k i : Nat) : Nat := k + 3 * sumTo (fun i => (T.kids i).size) i
def Mr (w : World) : Nd → Nat → Nat → Nat → Value → Prop
  | .nil, lo, hi, k, v => ∃ a cap, v = .slice a 0 cap
  | .mk a1 a2 a3 len kids, lo, hi, k, v => ∃ a cap, v = .slice a len cap ∧ (len = 0 ∨ ∃ (g : Nat) (s e : Nat → Nat), a = some ⟨g, 0, none⟩ ∧ lo ≤ g ∧ g < hi ∧ (∀ i, i < len → lo ≤ s i ∧ s i ≤ e i ∧ e i ≤ hi) ∧ ∀ i, i < len →
      ∃ u, w.cell? ⟨g, i * 4, none⟩ = some (.int .i64 ((kAt (.mk a1 a2 a3 len kids) k i : Nat) : Int)) ∧ w.cell? ⟨g, i * 4 + 1, none⟩ = some (.int .i64 ((kAt (.mk a1 a2 a3 len kids) k i + 1 : Nat) : Int)) ∧
        w.cell? ⟨g, i * 4 + 2, none⟩ = some (.string (mtext (kAt (.mk a1 a2 a3 len kids) k i + 2))) ∧ w.cell? ⟨g, i * 4 + 3, none⟩ = some u ∧ Mr w (kids i) (s i) (e i) (kAt (.mk a1 a2 a3 len kids) k i + 3) u)
theorem mr_eq {w : World} {T : Nd} {lo hi k : Nat} {v : Value} : Mr w T lo hi k v ↔ ∃ a cap, v = .slice a T.len cap ∧ (T.len = 0 ∨ ∃ (g : Nat) (s e : Nat → Nat), a = some ⟨g, 0, none⟩ ∧ lo ≤ g ∧ g < hi ∧ (∀ i, i < T.len → lo ≤ s i ∧ s i ≤ e i ∧ e i ≤ hi) ∧ ∀ i, i < T.len →
      ∃ u, w.cell? ⟨g, i * 4, none⟩ = some (.int .i64 ((kAt T k i : Nat) : Int)) ∧ w.cell? ⟨g, i * 4 + 1, none⟩ = some (.int .i64 ((kAt T k i + 1 : Nat) : Int)) ∧
        w.cell? ⟨g, i * 4 + 2, none⟩ = some (.string (mtext (kAt T k i + 2))) ∧ w.cell? ⟨g, i * 4 + 3, none⟩ = some u ∧ Mr w (T.kids i) (s i) (e i) (kAt T k i + 3) u) := by
  cases T with
  | nil => exact ⟨fun ⟨a, cap, h⟩ => ⟨a, cap, h, .inl rfl⟩, fun ⟨a, cap, h, _⟩ => ⟨a, cap, h⟩⟩
  | mk => exact Iff.rfl
theorem mr_keep {w w' : World} : ∀ {T : Nd} {lo hi k : Nat} {v : Value}, (∀ b, lo ≤ b → b < hi → w'.heap[b]? = w.heap[b]?) → Mr w T lo hi k v → Mr w' T lo hi k v := by
  intro T
  induction T with
  | nil => exact fun _ h => h
  | mk k n s len kids ih =>
    rintro lo hi k v hc ⟨a, cap, rfl, h⟩
    refine ⟨a, cap, rfl, ?_⟩
    rcases h with h | ⟨g, s, e, rfl, h1, h2, h4, h6⟩
    · exact .inl h
    · have hg : ∀ o, w'.cell? ⟨g, o, none⟩ = w.cell? ⟨g, o, none⟩ := fun o => World.cell?_of_block (a := ⟨g, o, none⟩) (hc g h1 h2)
      refine .inr ⟨g, s, e, rfl, h1, h2, h4, fun i hi => ?_⟩
      obtain ⟨u, e0, e1, e2, e3, hr⟩ := h6 i hi
      obtain ⟨s1, s2, s3⟩ := h4 i hi
      exact ⟨u, (hg _).trans e0, (hg _).trans e1, (hg _).trans e2, (hg _).trans e3, ih i (fun b k1 k2 => hc b (by omega) (by omega)) hr⟩
theorem mr_below {w w' : World} {T : Nd} {lo hi k B : Nat} {v : Value} (h : Mr w T lo hi k v) (hb : Below B w w') (hB : hi ≤ B) : Mr w' T lo hi k v := mr_keep (fun b _ h2 => hb.block b (by omega)) h
theorem mr_shape {w : World} {T : Nd} {lo hi k : Nat} {v : Value} (h : Mr w T lo hi k v) : ∃ a cap, v = .slice a T.len cap := by
  obtain ⟨a, cap, h, _⟩ := mr_eq.1 h; exact ⟨a, cap, h⟩

structure MtI (T : Nd) (lo hi k g : Nat) (s e : Nat → Nat) (w : World) (j : Nat) (wr : World) : Prop where
  kb : Kb lo hi w wr
  fz : ∀ o, wr.frozen? ⟨g, o, none⟩ = false
  don : ∀ i, i < j → ∃ u, wr.cell? ⟨g, i * 4, none⟩ = some (.int .i64 ((kAt T k i : Nat) : Int)) ∧ wr.cell? ⟨g, i * 4 + 1, none⟩ = some (.int .i64 ((kAt T k i + 1 : Nat) : Int)) ∧
        wr.cell? ⟨g, i * 4 + 2, none⟩ = some (.string (mtext (kAt T k i + 2))) ∧ wr.cell? ⟨g, i * 4 + 3, none⟩ = some u ∧ Mr wr (T.kids i) (s i) (e i) (kAt T k i + 3) u
  rst : ∀ i, j ≤ i → i < T.len → ∃ (x y : Int) (t : ByteArray) (u : Value), wr.cell? ⟨g, i * 4, none⟩ = some (.int .i64 x) ∧ wr.cell? ⟨g, i * 4 + 1, none⟩ = some (.int .i64 y) ∧
        wr.cell? ⟨g, i * 4 + 2, none⟩ = some (.string t) ∧ wr.cell? ⟨g, i * 4 + 3, none⟩ = some u ∧ Tr wr (T.kids i) (s i) (e i) u
theorem MtI.step {T : Nd} {lo hi k g : Nat} {s e : Nat → Nat} {w : World} {j : Nat} {wr w4 : World} (h : MtI T lo hi k g s e w j wr) (hlt : j < T.len)
    (iv : ∀ i, i < T.len → lo ≤ s i ∧ s i ≤ e i ∧ e i ≤ hi ∧ (g < s i ∨ e i ≤ g)) (ord : ∀ i j, i < j → j < T.len → e i ≤ s j) (hhi : hi ≤ wr.heap.size) (hk : Kb lo hi wr w4)
    (hblk : ∀ b, b < wr.heap.size → b ≠ g → (b < s j ∨ e j ≤ b) → w4.heap[b]? = wr.heap[b]?) (hfz : ∀ o, w4.frozen? ⟨g, o, none⟩ = false)
    (hg : ∀ o, w4.cell? ⟨g, o, none⟩ = if o = j * 4 then some (.int .i64 ((kAt T k j : Nat) : Int)) else if o = j * 4 + 1 then some (.int .i64 ((kAt T k j + 1 : Nat) : Int)) else if o = j * 4 + 2 then some (.string (mtext (kAt T k j + 2))) else wr.cell? ⟨g, o, none⟩)
    {u : Value} (hu : wr.cell? ⟨g, j * 4 + 3, none⟩ = some u) (hmr : Mr w4 (T.kids j) (s j) (e j) (kAt T k j + 3) u) : MtI T lo hi k g s e w (j + 1) w4 := by
  have hoff : ∀ i, i ≠ j → ∀ d, d < 4 → w4.cell? ⟨g, i * 4 + d, none⟩ = wr.cell? ⟨g, i * 4 + d, none⟩ := fun i hij d hd => by
    rw [hg, if_neg (by omega), if_neg (by omega), if_neg (by omega)]
  have hint : ∀ i, i ≠ j → i < T.len → ∀ b, s i ≤ b → b < e i → w4.heap[b]? = wr.heap[b]? := fun i hij hi b b1 b2 => by
    have i1 := iv i hi
    have i2 := iv j hlt
    refine hblk b (by omega) (by omega) ?_
    rcases Nat.lt_or_gt_of_ne hij with h | h
    · have := ord i j h hlt; omega
    · have := ord j i h hi; omega
  refine ⟨h.kb.trans hk, hfz, fun i hi => ?_, fun i hi hl => ?_⟩
  · by_cases hij : i = j
    · subst hij
      refine ⟨u, ?_, ?_, ?_, ?_, hmr⟩
      · rw [hg, if_pos rfl]
      · rw [hg, if_neg (by omega), if_pos rfl]
      · rw [hg, if_neg (by omega), if_neg (by omega), if_pos rfl]
      · rw [hg, if_neg (by omega), if_neg (by omega), if_neg (by omega)]; exact hu
    · obtain ⟨u', e0, e1, e2, e3, hr⟩ := h.don i (by omega)
      exact ⟨u', (hoff i hij 0 (by omega)).trans e0, (hoff i hij 1 (by omega)).trans e1, (hoff i hij 2 (by omega)).trans e2, (hoff i hij 3 (by omega)).trans e3, mr_keep (hint i hij (by omega)) hr⟩
  · have hij : i ≠ j := by omega
    obtain ⟨x, y, t, u', e0, e1, e2, e3, hr⟩ := h.rst i (by omega) hl
    exact ⟨x, y, t, u', (hoff i hij 0 (by omega)).trans e0, (hoff i hij 1 (by omega)).trans e1, (hoff i hij 2 (by omega)).trans e2, (hoff i hij 3 (by omega)).trans e3, tr_keep (hint i hij hl) hr⟩

def MtS (T : Nd) : Prop := ∀ (lo hi k : Nat) (w : World) (v : Value), hi ≤ w.heap.size → T.len ≤ 9223372036854775807 → Tr w T lo hi v → 1 ≤ k → k + 3 * T.under ≤ 1099511627776 →
  Calls Tryd.prog 39 #[v, .int .i64 k] w fun e w' => e = .returned (.int .i64 ((k + 3 * T.under : Nat) : Int)) ∧ Mr w' T lo hi k v ∧ Kb lo hi w w'
theorem MtS.at {T : Nd} (h : MtS T) (lo hi k : Nat) (x : Int) (w : World) (v : Value) (hx : x = (k : Int)) (h1 : hi ≤ w.heap.size) (h2 : T.len ≤ 9223372036854775807) (h3 : Tr w T lo hi v) (h5 : 1 ≤ k) (h6 : k + 3 * T.under ≤ 1099511627776) :
    Calls Tryd.prog 39 #[v, .int .i64 x] w fun e w' => e = .returned (.int .i64 ((k + 3 * T.under : Nat) : Int)) ∧ Mr w' T lo hi k v ∧ Kb lo hi w w' := by subst hx; exact h lo hi k w v h1 h2 h3 h5 h6
theorem len_under (T : Nd) : T.len ≤ T.under := by
  unfold Nd.under
  generalize T.len = n
  induction n with
  | zero => exact Nat.zero_le _
  | succ n ih => simp only [sumTo]; have := (T.kids n).size_eq; omega

set_option maxHeartbeats 4000000 in
set_option maxRecDepth 100000 in
theorem mtS_of (T : Nd) (ih : ∀ i, i < T.len → MtS (T.kids i)) : MtS T := by
  intro lo hi k w v hhi hn htr hk hkb
  obtain ⟨a, cap, rfl, hcap, hq⟩ := tr_eq.1 htr
  by_cases hne : T.len = 0
  · have hund : T.under = 0 := by unfold Nd.under; rw [hne]; rfl
    rw [hund]
    have HM : Hid (Mr w T lo hi k (.slice a T.len cap)) := mr_eq.2 ⟨a, cap, rfl, .inl hne⟩
    rw [hne] at HM ⊢
    clear hq htr ih hund
    go_enter Tryd.func39, Tryd.ntmps39
    go_wp2
    go_loopw [1, 5] (fun kv i wr => kv = .int .i64 (k : Int) ∧ i = .int .i64 0 ∧ wr = w) (fun _ _ _ => 0)
    case atStart => exact ⟨rfl, rfl, rfl⟩
    case round =>
      obtain ⟨rfl, rfl, rfl⟩ := hrel
      go_wp2
      go_ret
      exact ⟨by simp, HM.out, Kb.refl _ _ _⟩
  rcases hq with h0 | ⟨g, s, e, rfl, h1, h2, h3, h4, h5, h6⟩
  · exact absurd h0 hne
  have HI := hid_mk ih
  have HIV := hid_mk h4
  have HORD := hid_mk h5
  have H0 : Hid (MtI T lo hi k g s e w 0 w) := ⟨Kb.refl _ _ _, h3, fun i hi => absurd hi (Nat.not_lt_zero _), fun i _ hi => by
    obtain ⟨u, e0, e1, e2, e3, hr⟩ := h6 i hi
    exact ⟨_, _, _, u, e0, e1, e2, e3, hr⟩⟩
  clear ih htr h3 h4 h5 h6
  go_enter Tryd.func39, Tryd.ntmps39
  go_wp2
  go_loopw [1, 5] (fun kv i wr => ∃ j : Nat, j ≤ T.len ∧ kv = .int .i64 ((kAt T k j : Nat) : Int) ∧ i = .int .i64 j ∧ MtI T lo hi k g s e w j wr) (fun _ i _ => T.len - (intOf i).toNat)
  case atStart => exact ⟨0, by omega, by simp [kAt, sumTo], rfl, H0.out⟩
  case round =>
    obtain ⟨j, hj, rfl, rfl, hmt⟩ := hrel
    by_cases hlt : j < T.len
    · have hji : (j : Int) < (T.len : Int) := by omega
      obtain ⟨x, y, t, u, e0, e1, e2, e3, hr⟩ := hmt.rst j (Nat.le_refl _) hlt
      have hua := under_at T hlt
      have hus := (T.kids j).under_size
      have hkj : kAt T k (j + 1) = kAt T k j + 3 * (1 + (T.kids j).under) := by show k + 3 * (sumTo _ j + (T.kids j).size) = _; rw [hus]; unfold kAt; omega
      have hkb2 : kAt T k j + 3 * (1 + (T.kids j).under) ≤ 1099511627776 ∧ 1 ≤ kAt T k j := by unfold kAt; omega
      have HNS := hid_mk hkj
      have hlu : (T.kids j).len ≤ 9223372036854775807 := by have := len_under (T.kids j); omega
      obtain ⟨ua, uc, rfl⟩ := tr_shape hr
      have iv := HIV.out j hlt
      have hsz := hmt.kb.size
      have hfz := hmt.fz
      have HMT := hid_mk hmt
      have HIJ := hid_mk (HI.out j hlt)
      have HE : Hid (wr.cell? ⟨g, j * 4, none⟩ = some (.int .i64 x) ∧ wr.cell? ⟨g, j * 4 + 1, none⟩ = some (.int .i64 y) ∧ wr.cell? ⟨g, j * 4 + 2, none⟩ = some (.string t) ∧ wr.cell? ⟨g, j * 4 + 3, none⟩ = some (.slice ua (T.kids j).len uc)) := ⟨e0, e1, e2, e3⟩
      have HTR := hid_mk hr
      have HFZ := hid_mk hfz
      have hz0 : g < wr.heap.size := by omega
      -- the world behind two stores, a text and a third store
      have HW : Hid (∀ (w1 : World), Below wr.heap.size ((wr.setCell ⟨g, j * 4, none⟩ (.int .i64 ((kAt T k j : Nat) : Int))).setCell ⟨g, j * 4 + 1, none⟩ (.int .i64 ((kAt T k j + 1 : Nat) : Int))) w1 →
          w1.cell? ⟨g, j * 4 + 2, none⟩ = some (.string t) ∧ w1.cell? ⟨g, j * 4 + 3, none⟩ = some (.slice ua (T.kids j).len uc) ∧ (∀ o, w1.frozen? ⟨g, o, none⟩ = false) ∧ Kb lo hi wr (w1.setCell ⟨g, j * 4 + 2, none⟩ (.string (mtext (kAt T k j + 2)))) ∧
          (∀ b, b < wr.heap.size → b ≠ g → (w1.setCell ⟨g, j * 4 + 2, none⟩ (.string (mtext (kAt T k j + 2)))).heap[b]? = wr.heap[b]?) ∧
          (∀ o, (w1.setCell ⟨g, j * 4 + 2, none⟩ (.string (mtext (kAt T k j + 2)))).cell? ⟨g, o, none⟩ = if o = j * 4 then some (.int .i64 ((kAt T k j : Nat) : Int)) else if o = j * 4 + 1 then some (.int .i64 ((kAt T k j + 1 : Nat) : Int)) else if o = j * 4 + 2 then some (.string (mtext (kAt T k j + 2))) else wr.cell? ⟨g, o, none⟩) ∧
          (∀ o, (w1.setCell ⟨g, j * 4 + 2, none⟩ (.string (mtext (kAt T k j + 2)))).frozen? ⟨g, o, none⟩ = false)) := by
        intro w1 hb
        have a1 := cell_set wr g (j * 4) (.int .i64 ((kAt T k j : Nat) : Int)) e0
        have e1' : (wr.setCell ⟨g, j * 4, none⟩ (.int .i64 ((kAt T k j : Nat) : Int))).cell? ⟨g, j * 4 + 1, none⟩ = some (.int .i64 y) := by rw [a1, if_neg (by omega)]; exact e1
        have a2 := cell_set _ g (j * 4 + 1) (.int .i64 ((kAt T k j + 1 : Nat) : Int)) e1'
        have hc1 : ∀ o, w1.cell? ⟨g, o, none⟩ = _ := fun o => hb.cell (p := ⟨g, o, none⟩) hz0
        have hf1 : ∀ o, w1.frozen? ⟨g, o, none⟩ = false := fun o => (hb.frozen (p := ⟨g, o, none⟩) hz0).trans (by simp [go_sem]; exact hfz o)
        have e2' : w1.cell? ⟨g, j * 4 + 2, none⟩ = some (.string t) := by rw [hc1, a2, if_neg (by omega), a1, if_neg (by omega)]; exact e2
        have a3 := cell_set w1 g (j * 4 + 2) (.string (mtext (kAt T k j + 2))) e2'
        refine ⟨e2', by rw [hc1, a2, if_neg (by omega), a1, if_neg (by omega)]; exact e3, hf1, ?_, fun b hb1 hb2 => ?_, fun o => ?_, fun o => by simp [go_sem]; exact hf1 o⟩
        · exact (((Kb.setCell lo hi wr g _ _ h1 h2).trans (Kb.setCell lo hi _ g _ _ h1 h2)).trans (Kb.of_below (hb.mono (by simp [World.setCell])))).trans (Kb.setCell lo hi _ g _ _ h1 h2)
        · rw [Below.heap_setCell _ _ _ _ (by show b ≠ g; exact hb2), hb.block b hb1, Below.heap_setCell _ _ _ _ (by show b ≠ g; exact hb2), Below.heap_setCell _ _ _ _ (by show b ≠ g; exact hb2)]
        · rw [a3]
          by_cases o2 : o = j * 4 + 2
          · subst o2; rw [if_pos ⟨rfl, rfl⟩, if_neg (by omega), if_neg (by omega), if_pos rfl]
          · rw [if_neg (fun h => o2 h.2), hc1, a2]
            by_cases o1 : o = j * 4 + 1
            · subst o1; rw [if_pos ⟨rfl, rfl⟩, if_neg (by omega), if_pos rfl]
            · rw [if_neg (fun h => o1 h.2), a1]
              by_cases o0 : o = j * 4
              · subst o0; rw [if_pos ⟨rfl, rfl⟩, if_pos rfl]
              · rw [if_neg (fun h => o0 h.2), if_neg o0, if_neg o1, if_neg o2]
      clear hr hmt e2 e3 hkj
      generalize hq : kAt T k j = q at *
      have HQ := hid_mk hq
      clear hq
      have P1 : Hid True := trivial
      go_wp2_with (first
        | (go_at_call 53; clear P1; refine (mark_at _ (q + 2) (by omega) (by omega) (by omega) _).mono ?_; rintro e' w1 ⟨rfl, hb1⟩; have HX := hid_mk (HW.out w1 (by first | exact hb1.mono (by simp [World.setCell]) | (simpa using hb1.mono (by simp [World.setCell])))); obtain ⟨c2, c3, f2, -⟩ := HX.out; have f22 := f2 (j * 4 + 2); have c3' : (w1.setCell ⟨g, j * 4 + 2, none⟩ (.string (mtext (q + 2)))).cell? ⟨g, j * 4 + 3, none⟩ = some (.slice ua (T.kids j).len uc) := (by rw [cell_set w1 g (j * 4 + 2) _ c2, if_neg (by omega)]; exact c3))
        | (go_at_call 39; refine (HIJ.out.at (s j) (e j) (q + 3) _ _ _ (by omega) (by have := HX.out.2.2.2.1.size; omega) hlu (tr_keep (fun b b1 b2 => HX.out.2.2.2.2.1 b (by omega) (by omega)) HTR.out) (by omega) (by omega)).mono ?_; rintro e' w2 ⟨rfl, hm2, hk2⟩; have HM2 := hid_mk hm2; have HK2 := hid_mk hk2; clear hm2 hk2))
      have hq := HQ.out
      subst hq
      obtain ⟨_, _, _, hkb3, hbl3, hce3, hfr3⟩ := HX.out
      have hgb : w2.heap[g]? = (w1.setCell ⟨g, j * 4 + 2, none⟩ (.string (mtext (kAt T k j + 2)))).heap[g]? := HK2.out.out g (by have := hkb3.size; omega) (by omega)
      have hst := HMT.out.step hlt HIV.out HORD.out (by omega) (hkb3.trans (HK2.out.wide iv.1 iv.2.2.1)) (fun b b1 b2 b3 => (HK2.out.out b (by have := hkb3.size; omega) b3).trans (hbl3 b b1 b2))
        (fun o => by rw [World.frozen?_of_block (a := ⟨g, o, none⟩) hgb]; exact hfr3 o) (fun o => (World.cell?_of_block (a := ⟨g, o, none⟩) hgb).trans (hce3 o)) HE.out.2.2.2 HM2.out
      refine ⟨⟨j + 1, by omega, ?_, by go_num, hst⟩, by simp [intOf]; omega⟩
      rw [HNS.out]
      congr 1
      omega
    · obtain rfl : j = T.len := by omega
      have HM : Hid (Mr wr T lo hi k (.slice (some ⟨g, 0, none⟩) T.len cap)) := mr_eq.2 ⟨_, cap, rfl, .inr ⟨g, s, e, rfl, h1, h2, fun i hi => by have := HIV.out i hi; omega, hmt.don⟩⟩
      go_wp2
      go_ret
      exact ⟨rfl, HM.out, hmt.kb⟩
theorem mark_trees (T : Nd) : MtS T := by
  induction T with
  | nil => exact mtS_of _ fun i hi => absurd hi (Nat.not_lt_zero i)
  | mk k n s len kids ih => exact mtS_of _ fun i _ => ih i
set_option maxHeartbeats 1000000 in
theorem mark_tree (T : Nd) (lo hi : Nat) (w : World) (v : Value) (hhi : hi ≤ w.heap.size) (hr : Tr w T lo hi v) (hb : T.size ≤ 1048577) :
    Calls Tryd.prog 19 #[T.val v, .int .i64 1] w fun e w' => e = .returned (.int .i64 ((1 + 3 * T.under : Nat) : Int)) ∧ Mr w' T lo hi 1 v ∧ Kb lo hi w w' := by
  have hs := T.under_size
  have hlu := len_under T
  obtain ⟨a, cap, rfl⟩ := tr_shape hr
  have HB := hid_mk (fun o : Obj => (Below.refl w.heap.size w).alloc (Nat.le_refl _) o)
  have HK := hid_mk (fun o => show Calls Tryd.prog 39 #[.slice a T.len cap, .int .i64 1] (w.alloc o) fun e w' => e = .returned (.int .i64 ((1 + 3 * T.under : Nat) : Int)) ∧ Mr w' T lo hi 1 (.slice a T.len cap) ∧ Kb lo hi (w.alloc o) w' from mark_trees T lo hi 1 (w.alloc o) (.slice a T.len cap) (by simp; omega) (by omega) (tr_below hr (HB.out o) hhi) (Nat.le_refl 1) (by omega))
  unfold Nd.val
  clear hr
  go_enter Tryd.func19, Tryd.ntmps19
  go_wp2_with (go_at_call 39; refine (HK.out _).mono ?_; rintro e w2 ⟨rfl, hm2, hk2⟩; have HM2 := hid_mk hm2; have HK2 := hid_mk ((Kb.of_below (HB.out _)).trans hk2); clear hm2 hk2)
  go_ret
  exact ⟨rfl, HM2.out, HK2.out⟩

def HdS (T : Nd) : Prop := ∀ (lo hi k : Nat) (w : World) (v : Value), hi ≤ w.heap.size → T.len ≤ 9223372036854775807 → Mr w T lo hi k v → 1 ≤ k → k + 3 * T.under ≤ 1099511627776 →
  Calls Tryd.prog 40 #[v, .int .i64 k] w fun e w' => e = .returned (.int .i64 ((k + 3 * T.under : Nat) : Int)) ∧ Below w.heap.size w w'
theorem HdS.at {T : Nd} (h : HdS T) (lo hi k : Nat) (x : Int) (w : World) (v : Value) (hx : x = (k : Int)) (h1 : hi ≤ w.heap.size) (h2 : T.len ≤ 9223372036854775807) (h3 : Mr w T lo hi k v) (h5 : 1 ≤ k) (h6 : k + 3 * T.under ≤ 1099511627776) :
    Calls Tryd.prog 40 #[v, .int .i64 x] w fun e w' => e = .returned (.int .i64 ((k + 3 * T.under : Nat) : Int)) ∧ Below w.heap.size w w' := by subst hx; exact h lo hi k w v h1 h2 h3 h5 h6

set_option maxHeartbeats 4000000 in
set_option maxRecDepth 100000 in
theorem hdS_of (T : Nd) (ih : ∀ i, i < T.len → HdS (T.kids i)) : HdS T := by
  intro lo hi k w v hhi hn htr hk hkb
  obtain ⟨a, cap, rfl, hq⟩ := mr_eq.1 htr
  have HI := hid_mk ih
  have HQ := hid_mk hq
  clear ih htr hq
  go_enter Tryd.func40, Tryd.ntmps40
  go_wp2
  go_loopw [1, 5] (fun kv i wr => ∃ j : Nat, j ≤ T.len ∧ kv = .int .i64 ((kAt T k j : Nat) : Int) ∧ i = .int .i64 j ∧ Below w.heap.size w wr) (fun _ i _ => T.len - (intOf i).toNat)
  case atStart => exact ⟨0, by omega, by simp [kAt, sumTo], rfl, Below.refl _ _⟩
  case round =>
    obtain ⟨j, hj, rfl, rfl, hb⟩ := hrel
    have HB := hid_mk hb
    by_cases hlt : j < T.len
    · have hji : (j : Int) < (T.len : Int) := by omega
      rcases HQ.out with h0 | ⟨g, s, e, rfl, h1, h2, h4, h6⟩
      · omega
      obtain ⟨u, e0, e1, e2, e3, hr⟩ := h6 j hlt
      have iv := h4 j hlt
      have hua := under_at T hlt
      have hus := (T.kids j).under_size
      have hkj : kAt T k (j + 1) = kAt T k j + 3 * (1 + (T.kids j).under) := by show k + 3 * (sumTo _ j + (T.kids j).size) = _; rw [hus]; unfold kAt; omega
      have hkb2 : kAt T k j + 3 * (1 + (T.kids j).under) ≤ 1099511627776 ∧ 1 ≤ kAt T k j := by unfold kAt; omega
      have HNS := hid_mk hkj
      have hlu : (T.kids j).len ≤ 9223372036854775807 := by have := len_under (T.kids j); omega
      have hgl : g < w.heap.size := by omega
      have hbz := hb.size
      have hgr : g < wr.heap.size := by omega
      rw [← hb.cell (p := ⟨g, _, none⟩) hgl] at e0 e1 e2 e3
      obtain ⟨ua, uc, rfl⟩ := mr_shape hr
      have HMR := hid_mk (mr_below hr hb (by omega))
      have HIJ := hid_mk (HI.out j hlt)
      have HE3 := hid_mk e3
      clear h6 h4 hr hkj hb
      generalize kAt T k j = q at *
      have hq0 : ¬ ((q : Int) + 1 + 1 + 1 + 3 * ((T.kids j).under : Int) < 0) := by omega
      have HX : Hid (∃ x, x = mtext (q + 2)) := ⟨_, rfl⟩
      obtain ⟨tx, htx⟩ := HX.out
      rw [← htx] at e2
      have HTX := hid_mk htx
      clear htx HX
      go_wp2_with fail
      go_region_with (go_at_call 53; refine (mark_at _ (q + 2) (by omega) (by omega) (by omega) _).mono ?_; rw [← HTX.out]; rintro e' w1 ⟨rfl, hb1⟩; have HB1 := hid_mk (HB.out.drew.trans (hb1.mono hbz)); have hz1 : wr.heap.size ≤ w1.heap.size := hb1.size; have c2 : w1.cell? ⟨g, j * 4 + 2, none⟩ = some (.string tx) := (hb1.cell (p := ⟨g, j * 4 + 2, none⟩) (show g < wr.heap.size by omega)).trans e2; have c3 : w1.cell? ⟨g, j * 4 + 3, none⟩ = some (.slice ua (T.kids j).len uc) := (hb1.cell (p := ⟨g, j * 4 + 3, none⟩) (show g < wr.heap.size by omega)).trans HE3.out; have HMR1 := hid_mk (mr_below (mr_keep (w := wr) (w' := wr.drew) (fun _ _ _ => rfl) HMR.out) hb1 (show e j ≤ wr.heap.size by omega)); clear hb1)
      all_goals
        go_wp2_with (go_at_call 40; refine (HIJ.out.at (s j) (e j) (q + 3) _ _ _ (by omega) (by omega) hlu HMR1.out (by omega) (by omega)).mono ?_; rintro e' w2 ⟨rfl, hb2⟩; have HB2 := hid_mk (HB1.out.trans (hb2.mono (by omega))))
        refine ⟨⟨j + 1, by omega, ?_, by go_num, HB2.out⟩, by simp [intOf]; omega⟩
        rw [HNS.out]
        congr 1
        omega
    · obtain rfl : j = T.len := by omega
      go_wp2
      go_ret
      exact ⟨rfl, hb⟩
theorem held_trees (T : Nd) : HdS T := by
  induction T with
  | nil => exact hdS_of _ fun i hi => absurd hi (Nat.not_lt_zero i)
  | mk k n s len kids ih => exact hdS_of _ fun i _ => ih i
set_option maxHeartbeats 1000000 in
theorem held_tree (T : Nd) (lo hi : Nat) (w : World) (v : Value) (hhi : hi ≤ w.heap.size) (hr : Mr w T lo hi 1 v) (hb : T.size ≤ 1048577) :
    Calls Tryd.prog 20 #[T.val v, .int .i64 1] w fun e w' => e = .returned (.int .i64 ((1 + 3 * T.under : Nat) : Int)) ∧ Below w.heap.size w w' := by
  have hs := T.under_size
  have hlu := len_under T
  obtain ⟨a, cap, rfl⟩ := mr_shape hr
  have HB := hid_mk (fun o : Obj => (Below.refl w.heap.size w).alloc (Nat.le_refl _) o)
  have HK := hid_mk (fun o => show Calls Tryd.prog 40 #[.slice a T.len cap, .int .i64 1] (w.alloc o) fun e w' => e = .returned (.int .i64 ((1 + 3 * T.under : Nat) : Int)) ∧ Below (w.alloc o).heap.size (w.alloc o) w' from held_trees T lo hi 1 (w.alloc o) (.slice a T.len cap) (by simp; omega) (by omega) (mr_below hr (HB.out o) hhi) (Nat.le_refl 1) (by omega))
  have hq0 : ¬ (((1 + 3 * T.under : Nat) : Int) < 0) := by omega
  unfold Nd.val
  clear hr
  generalize (1 + 3 * T.under) = q at *
  go_enter Tryd.func20, Tryd.ntmps20
  go_wp2_with (go_at_call 40; refine (HK.out _).mono ?_; rintro e w2 ⟨rfl, hb2⟩; have HB2 := hid_mk ((HB.out _).trans (hb2.mono (by simp))); clear hb2)
  go_ret
  exact ⟨rfl, HB2.out⟩
end Go.Proofs.YtjgbjahcnnjfpaaDoor
