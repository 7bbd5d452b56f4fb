/- The law's own marks: the text of a number. -/
import Derived.Test.YtjgbjahcnnjfpaaDoorMaB
import Derived.Test.YtjgbjahcnnjfpaaDoorMaA
import Derived.RegionTactic
import Derived.BigRegion
import Derived.Deep.RegionWith
import Derived.WalkSpells
import Derived.WalkSmall
import Derived.Laws.IdiomStrings
set_option linter.unusedVariables false
namespace Go.Proofs.YtjgbjahcnnjfpaaDoor
open Go.RowKit

def mbs (l : List UInt8) : ByteArray := ⟨l.toArray⟩
theorem mbs_size (l : List UInt8) : (mbs l).size = l.length := by simp [mbs, ByteArray.size]
theorem mbs_append (a b : List UInt8) : mbs a ++ mbs b = mbs (a ++ b) := by
  apply ByteArray.ext
  simp [mbs]
def mdigs (k : Nat) : List UInt8 := if h : k = 0 then [] else mdigs (k / 10) ++ [UInt8.ofNat (48 + k % 10)]
  termination_by k
  decreasing_by omega
def mtext (k : Nat) : ByteArray := mbs (109 :: mdigs k)

theorem mconv_one {w : World} (c : Nat) (hc : c < 256) : (convert 61 9 (.slice (some ⟨w.heap.size, 0, none⟩) 1 1)).run Tryd.prog (w.alloc (.cells #[.int .u8 (c : Int)] 5)) = .ok (.string (mbs [UInt8.ofNat c])) (w.alloc (.cells #[.int .u8 (c : Int)] 5)) := by
  refine run_convert_bytes_back (P := Tryd.prog) _ _ _ 5 ⟨w.heap.size, 0, none⟩ 1 [UInt8.ofNat c] Tryd.underlying61 Tryd.underlying5 Tryd.underlying9 ?_
  intro j hj
  obtain rfl : j = 0 := by simpa using hj
  have : (UInt8.ofNat c).toNat = c := by simp; omega
  simp [Addr.add, this]
theorem mdigs_step (j : Nat) (h : 0 < j) : mdigs j = mdigs (j / 10) ++ [UInt8.ofNat (48 + j % 10)] := by
  rw [mdigs]
  rw [dif_neg (by omega)]
theorem mdigs_zero : mdigs 0 = [] := by rw [mdigs]; rfl

set_option maxHeartbeats 2000000 in
theorem mark_text (k : Nat) (hk : 1 ≤ k) (hk2 : k ≤ 1099511627776) (w : World) : Calls Tryd.prog 53 #[.int .i64 k] w fun e w' => e = .returned (.string (mtext k)) ∧ Below w.heap.size w w' := by
  go_enter Tryd.func53, Tryd.ntmps53
  go_wp2
  go_loopw [0, 3] (fun i o wr => ∃ (j : Nat) (l : List UInt8), l.length + j ≤ k ∧ i = .int .i64 j ∧ o = .string (mbs l) ∧ Hid (mdigs k = mdigs j ++ l) ∧ Below w.heap.size w wr) (fun i _ _ => (intOf i).toNat)
  case atStart => exact ⟨k, [], by simp, rfl, rfl, by simp [Hid], Below.refl _ _⟩
  case round =>
    obtain ⟨j, l, hj, rfl, rfl, hd, hb⟩ := hrel
    have hls : (mbs l).size = l.length := mbs_size l
    have hls2 : (mbs l).size ≤ 1099511627776 := by omega
    by_cases h0 : 0 < j
    · have hm : (j : Int) % 10 < 10 := by omega
      have hm0 : 0 ≤ (j : Int) % 10 := by omega
      have hcv := mconv_one (w := wr) (48 + j % 10) (by omega)
      have hcast : (((48 + j % 10 : Nat)) : Int) = 48 + (j : Int) % 10 := by omega
      rw [hcast] at hcv
      have hap : mbs [UInt8.ofNat (48 + j % 10)] ++ mbs l = mbs (UInt8.ofNat (48 + j % 10) :: l) := mbs_append _ _
      have hx1 : (mbs [UInt8.ofNat (48 + j % 10)]).size = 1 := mbs_size _
      have HD : Hid (mdigs k = mdigs (j / 10) ++ (UInt8.ofNat (48 + j % 10) :: l)) := by
        unfold Hid; rw [hd.out, mdigs_step j h0]; simp
      have HC : Hid (((j / 10 : Nat) : Int) = (j : Int) / 10) := by unfold Hid; omega
      generalize UInt8.ofNat (48 + j % 10) = dg at *
      clear hcast
      go_wp2
      exact ⟨⟨j / 10, dg :: l, by simp; omega, by rw [HC.out], rfl, HD.out, hb.alloc hb.size _⟩, by simp [intOf]; omega⟩
    · obtain rfl : j = 0 := by omega
      have HD : Hid (mtext k = (⟨#[109]⟩ : ByteArray) ++ mbs l) := by
        unfold Hid mtext; rw [hd.out, mdigs_zero]; exact (mbs_append [109] l).symm
      go_wp2
      go_ret
      exact ⟨ret_str HD.out.symm, hb⟩

theorem mark_at (x : Int) (k : Nat) (hx : x = k) (hk : 1 ≤ k) (hk2 : k ≤ 1099511627776) (w : World) : Calls Tryd.prog 53 #[.int .i64 x] w fun e w' => e = .returned (.string (mtext k)) ∧ Below w.heap.size w w' := by
  subst hx; exact mark_text k hk hk2 w
end Go.Proofs.YtjgbjahcnnjfpaaDoor
namespace Go.Proofs.YtjgbjahcnnjfpaaDoor
open Go.RowKit

theorem lt_of_cell {w : World} {g o : Nat} {v : Value} (h : w.cell? ⟨g, o, none⟩ = some v) : g < w.heap.size := by
  rcases Nat.lt_or_ge g w.heap.size with h1 | h1
  · exact h1
  · simp [World.cell?, Array.getElem?_eq_none h1] at h
theorem cell_set (w : World) (g o : Nat) (v : Value) {z : Value} (hz : w.cell? ⟨g, o, none⟩ = some z) (g' o' : Nat) : (w.setCell ⟨g, o, none⟩ v).cell? ⟨g', o', none⟩ = if g' = g ∧ o' = o then some v else w.cell? ⟨g', o', none⟩ := by
  split
  · rename_i h; obtain ⟨rfl, rfl⟩ := h; exact World.cell?_setCell_same _ _ _ hz
  · rename_i h; exact World.cell?_setCell_other _ _ _ _ (fun e => h (by cases e; exact ⟨rfl, rfl⟩))
end Go.Proofs.YtjgbjahcnnjfpaaDoor
namespace Go.Proofs.YtjgbjahcnnjfpaaDoor
open Go.RowKit

def Sk (lo hi : Nat) (w : World) : Nd → Value → Prop
  | .nil, v => ∃ a cap, v = .slice a 0 cap
  | .mk _ _ _ len kids, v => ∃ a cap, v = .slice a len cap ∧ (len = 0 ∨ ∃ g off, a = some ⟨g, off, none⟩ ∧ lo ≤ g ∧ g < hi ∧ ∀ i, i < len →
      ∃ (x y : Int) (s : ByteArray) (u : Value), w.cell? ⟨g, off + i * 4, none⟩ = some (.int .i64 x) ∧ w.cell? ⟨g, off + i * 4 + 1, none⟩ = some (.int .i64 y) ∧
        w.cell? ⟨g, off + i * 4 + 2, none⟩ = some (.string s) ∧ w.cell? ⟨g, off + i * 4 + 3, none⟩ = some u ∧ Sk lo hi w (kids i) u)
theorem sk_eq {lo hi : Nat} {w : World} {T : Nd} {v : Value} : Sk lo hi w T v ↔ ∃ a cap, v = .slice a T.len cap ∧ (T.len = 0 ∨ ∃ g off, a = some ⟨g, off, none⟩ ∧ lo ≤ g ∧ g < hi ∧ ∀ i, i < T.len →
      ∃ (x y : Int) (s : ByteArray) (u : Value), w.cell? ⟨g, off + i * 4, none⟩ = some (.int .i64 x) ∧ w.cell? ⟨g, off + i * 4 + 1, none⟩ = some (.int .i64 y) ∧
        w.cell? ⟨g, off + i * 4 + 2, none⟩ = some (.string s) ∧ w.cell? ⟨g, off + i * 4 + 3, none⟩ = some u ∧ Sk lo hi w (T.kids i) u) := by
  cases T with
  | nil => exact ⟨fun ⟨a, cap, h⟩ => ⟨a, cap, h, .inl rfl⟩, fun ⟨a, cap, h, _⟩ => ⟨a, cap, h⟩⟩
  | mk => exact Iff.rfl
theorem sk_of_row {lo hi : Nat} {w : World} : ∀ {T : Nd} {v : Value}, Row lo hi w T v → Sk lo hi w T v := by
  intro T
  induction T with
  | nil => rintro v ⟨a, cap, h, _⟩; exact ⟨a, cap, h⟩
  | mk k n s len kids ih =>
    rintro v ⟨a, cap, h, _, hq⟩
    refine ⟨a, cap, h, ?_⟩
    rcases hq with h0 | ⟨g, off, ha, h1, h2, h3⟩
    · exact .inl h0
    · refine .inr ⟨g, off, ha, h1, h2, fun i hi => ?_⟩
      obtain ⟨u, e0, e1, e2, e3, hr⟩ := h3 i hi
      exact ⟨_, _, _, u, e0, e1, e2, e3, ih i hr⟩
theorem sk_shape {lo hi : Nat} {w : World} {T : Nd} {v : Value} (h : Sk lo hi w T v) : ∃ a cap, v = .slice a T.len cap := by
  obtain ⟨a, cap, h, _⟩ := sk_eq.1 h; exact ⟨a, cap, h⟩

structure Mk (lo hi : Nat) (w w' : World) : Prop where
  os : w'.os = w.os
  tape : w'.tape = w.tape
  output : w'.output = w.output
  size : w.heap.size ≤ w'.heap.size
  out : ∀ k, k < w.heap.size → (k < lo ∨ hi ≤ k) → w'.heap[k]? = w.heap[k]?
  ints : ∀ g o x, w.cell? ⟨g, o, none⟩ = some (.int .i64 x) → ∃ y, w'.cell? ⟨g, o, none⟩ = some (.int .i64 y)
  strs : ∀ g o x, w.cell? ⟨g, o, none⟩ = some (.string x) → ∃ y, w'.cell? ⟨g, o, none⟩ = some (.string y)
  slcs : ∀ g o a n c, w.cell? ⟨g, o, none⟩ = some (.slice a n c) → w'.cell? ⟨g, o, none⟩ = some (.slice a n c)
  warm : ∀ g o, g < w.heap.size → w'.frozen? ⟨g, o, none⟩ = w.frozen? ⟨g, o, none⟩
theorem Mk.refl (lo hi : Nat) (w : World) : Mk lo hi w w := ⟨rfl, rfl, rfl, Nat.le_refl _, fun _ _ _ => rfl, fun _ _ x h => ⟨x, h⟩, fun _ _ x h => ⟨x, h⟩, fun _ _ _ _ _ h => h, fun _ _ _ => rfl⟩
theorem Mk.trans {lo hi : Nat} {a b c : World} (h : Mk lo hi a b) (k : Mk lo hi b c) : Mk lo hi a c :=
  ⟨k.os.trans h.os, k.tape.trans h.tape, k.output.trans h.output, Nat.le_trans h.size k.size, fun i hi ho => (k.out i (Nat.lt_of_lt_of_le hi h.size) ho).trans (h.out i hi ho),
    fun g o x e => by obtain ⟨y, hy⟩ := h.ints g o x e; exact k.ints g o y hy, fun g o x e => by obtain ⟨y, hy⟩ := h.strs g o x e; exact k.strs g o y hy,
    fun g o x n q e => k.slcs g o x n q (h.slcs g o x n q e), fun g o hg => (k.warm g o (Nat.lt_of_lt_of_le hg h.size)).trans (h.warm g o hg)⟩
theorem Mk.of_below {lo hi : Nat} {w w' : World} (h : Below w.heap.size w w') : Mk lo hi w w' :=
  ⟨h.os, h.tape, h.output, h.size, fun k hk _ => h.block k hk, fun g o x e => ⟨x, (h.cell (p := ⟨g, o, none⟩) (lt_of_cell e)).trans e⟩, fun g o x e => ⟨x, (h.cell (p := ⟨g, o, none⟩) (lt_of_cell e)).trans e⟩,
    fun g o a n c e => (h.cell (p := ⟨g, o, none⟩) (lt_of_cell e)).trans e, fun g o hg => h.frozen (p := ⟨g, o, none⟩) hg⟩
theorem Mk.setInt {lo hi : Nat} {w : World} {g o : Nat} {x : Int} (hx : w.cell? ⟨g, o, none⟩ = some (.int .i64 x)) (hl : lo ≤ g) (hh : g < hi) (y : Int) : Mk lo hi w (w.setCell ⟨g, o, none⟩ (.int .i64 y)) := by
  have hc := cell_set w g o (.int .i64 y) hx
  refine ⟨rfl, rfl, rfl, by simp [World.setCell], fun k hk ho => Below.heap_setCell _ _ _ _ (by show k ≠ g; omega), fun g' o' x' e => ?_, fun g' o' x' e => ?_, fun g' o' a n c e => ?_, fun g' o' _ => by simp [go_sem]⟩
  · rw [hc]; split
    · exact ⟨y, rfl⟩
    · exact ⟨x', e⟩
  · rw [hc]; split
    · rename_i h; obtain ⟨rfl, rfl⟩ := h; rw [hx] at e; cases e
    · exact ⟨x', e⟩
  · rw [hc]; split
    · rename_i h; obtain ⟨rfl, rfl⟩ := h; rw [hx] at e; cases e
    · exact e
theorem Mk.setStr {lo hi : Nat} {w : World} {g o : Nat} {x : ByteArray} (hx : w.cell? ⟨g, o, none⟩ = some (.string x)) (hl : lo ≤ g) (hh : g < hi) (y : ByteArray) : Mk lo hi w (w.setCell ⟨g, o, none⟩ (.string y)) := by
  have hc := cell_set w g o (.string y) hx
  refine ⟨rfl, rfl, rfl, by simp [World.setCell], fun k hk ho => Below.heap_setCell _ _ _ _ (by show k ≠ g; omega), fun g' o' x' e => ?_, fun g' o' x' e => ?_, fun g' o' a n c e => ?_, fun g' o' _ => by simp [go_sem]⟩
  · rw [hc]; split
    · rename_i h; obtain ⟨rfl, rfl⟩ := h; rw [hx] at e; cases e
    · exact ⟨x', e⟩
  · rw [hc]; split
    · exact ⟨y, rfl⟩
    · exact ⟨x', e⟩
  · rw [hc]; split
    · rename_i h; obtain ⟨rfl, rfl⟩ := h; rw [hx] at e; cases e
    · exact e
theorem Mk.sk {lo hi : Nat} {w w' : World} (h : Mk lo hi w w') : ∀ {T : Nd} {v : Value}, Sk lo hi w T v → Sk lo hi w' T v := by
  intro T
  induction T with
  | nil => exact fun h => h
  | mk k n s len kids ih =>
    rintro v ⟨a, cap, hv, hq⟩
    refine ⟨a, cap, hv, ?_⟩
    rcases hq with h0 | ⟨g, off, ha, h1, h2, h3⟩
    · exact .inl h0
    · refine .inr ⟨g, off, ha, h1, h2, fun i hi => ?_⟩
      obtain ⟨x, y, s, u, e0, e1, e2, e3, hr⟩ := h3 i hi
      obtain ⟨x', e0'⟩ := h.ints _ _ _ e0
      obtain ⟨y', e1'⟩ := h.ints _ _ _ e1
      obtain ⟨s', e2'⟩ := h.strs _ _ _ e2
      obtain ⟨au, cu, rfl⟩ := sk_shape hr
      exact ⟨x', y', s', _, e0', e1', e2', h.slcs _ _ _ _ _ e3, ih i hr⟩

def Nd.under (T : Nd) : Nat := sumTo (fun i => (T.kids i).size) T.len
theorem Nd.under_size (T : Nd) : T.size = 1 + T.under := T.size_eq
def MkS (T : Nd) : Prop := ∀ (lo hi k : Nat) (w : World) (v : Value), hi ≤ w.heap.size → T.len ≤ 9223372036854775807 → Sk lo hi w T v → (∀ g o, lo ≤ g → g < hi → w.frozen? ⟨g, o, none⟩ = false) → 1 ≤ k → k + 3 * T.under ≤ 1099511627776 →
  Calls Tryd.prog 39 #[v, .int .i64 k] w fun e w' => e = .returned (.int .i64 ((k + 3 * T.under : Nat) : Int)) ∧ Mk lo hi w w'
theorem MkS.at {T : Nd} (h : MkS T) (lo hi k : Nat) (x : Int) (w : World) (v : Value) (hx : x = (k : Int)) (h1 : hi ≤ w.heap.size) (h2 : T.len ≤ 9223372036854775807) (h3 : Sk lo hi w T v) (h4 : ∀ g o, lo ≤ g → g < hi → w.frozen? ⟨g, o, none⟩ = false) (h5 : 1 ≤ k) (h6 : k + 3 * T.under ≤ 1099511627776) :
    Calls Tryd.prog 39 #[v, .int .i64 x] w fun e w' => e = .returned (.int .i64 ((k + 3 * T.under : Nat) : Int)) ∧ Mk lo hi w w' := by subst hx; exact h lo hi k w v h1 h2 h3 h4 h5 h6
theorem under_at (T : Nd) {j : Nat} (h : j < T.len) : sumTo (fun i => (T.kids i).size) j + (1 + (T.kids j).under) ≤ T.under := by
  have h1 : sumTo (fun i => (T.kids i).size) j + (T.kids j).size ≤ T.under := sumTo_at (fun i => (T.kids i).size) h
  have e := (T.kids j).under_size
  omega

set_option maxHeartbeats 4000000 in
set_option maxRecDepth 100000 in
theorem mkS_of (T : Nd) (ih : ∀ i, i < T.len → MkS (T.kids i)) : MkS T := by
  intro lo hi k w v hhi hn hsk hwm hk hkb
  obtain ⟨a, cap, rfl⟩ := sk_shape hsk
  have HI := hid_mk ih
  have HS := hid_mk hsk
  have HW := hid_mk hwm
  clear ih hsk hwm
  go_enter Tryd.func39, Tryd.ntmps39
  go_wp2
  go_loopw [1, 5] (fun kv i wr => ∃ j : Nat, j ≤ T.len ∧ kv = .int .i64 ((k + 3 * sumTo (fun i => (T.kids i).size) j : Nat) : Int) ∧ i = .int .i64 j ∧ Mk lo hi w wr) (fun _ i _ => T.len - (intOf i).toNat)
  case atStart => exact ⟨0, by omega, by simp [sumTo], rfl, Mk.refl _ _ _⟩
  case round =>
    obtain ⟨j, hj, rfl, rfl, hmk⟩ := hrel
    by_cases hlt : j < T.len
    · have hji : (j : Int) < (T.len : Int) := by omega
      obtain ⟨a', cap', hv, hq⟩ := sk_eq.1 (hmk.sk HS.out)
      injection hv with ev1 ev2 ev3
      subst ev1
      subst ev3
      rcases hq with h0 | ⟨g, off, rfl, h1, h2, h3⟩
      · omega
      obtain ⟨x, y, s, u, e0, e1, e2, e3, hr⟩ := h3 j hlt
      have hua := under_at T hlt
      have hus := (T.kids j).under_size
      have hns : sumTo (fun i => (T.kids i).size) (j + 1) = sumTo (fun i => (T.kids i).size) j + (1 + (T.kids j).under) := by show sumTo _ j + (T.kids j).size = _; rw [hus]
      have HNS := hid_mk hns
      have hlu : (T.kids j).len ≤ 9223372036854775807 := by
        have : (T.kids j).len ≤ (T.kids j).under := by
          unfold Nd.under
          generalize (T.kids j).len = n
          induction n with
          | zero => exact Nat.zero_le _
          | succ n ih => simp only [sumTo]; have := ((T.kids j).kids n).size_eq; omega
        omega
      generalize sumTo (fun i => (T.kids i).size) j = q at *
      have hfz : ∀ o, wr.frozen? ⟨g, o, none⟩ = false := fun o => (hmk.warm g o (by omega)).trans (HW.out g o h1 h2)
      obtain ⟨ua, uc, rfl⟩ := sk_shape hr
      have HM2 : Hid (∀ (a b : Int) (w1 : World), Below wr.heap.size ((wr.setCell ⟨g, off + j * 4, none⟩ (.int .i64 a)).setCell ⟨g, off + j * 4 + 1, none⟩ (.int .i64 b)) w1 → Mk lo hi wr w1) := by
        intro a b w1 hb
        have m1 := Mk.setInt (lo := lo) (hi := hi) e0 h1 h2 a
        obtain ⟨y1, e1'⟩ := m1.ints _ _ _ e1
        have m2 := m1.trans (Mk.setInt e1' h1 h2 b)
        exact m2.trans (Mk.of_below (hb.mono (by simp [World.setCell])))
      have HE2 := hid_mk e2
      have HE3 := hid_mk e3
      have HR := hid_mk hr
      have HFZ := hid_mk hfz
      have HMK := hid_mk hmk
      have HIJ := hid_mk (HI.out j hlt)
      have hsz := hmk.size
      clear h3 hr hmk e2 e3 hns
      have P1 : Hid True := trivial
      go_wp2_with (first
        | (go_at_call 53; clear P1; refine (mark_at _ (k + 3 * q + 2) (by omega) (by omega) (by omega) _).mono ?_; rintro e w1 ⟨rfl, hb1⟩; have HM := hid_mk (HM2.out _ _ _ (hb1.mono (by simp [World.setCell]))); obtain ⟨s2, c2⟩ := HM.out.strs _ _ _ HE2.out; have c3 := HM.out.slcs _ _ _ _ _ HE3.out; have f2 := (HM.out.warm g (off + j * 4 + 2) (by omega)).trans (HFZ.out _); have HM3 := hid_mk (fun s => HM.out.trans (Mk.setStr (lo := lo) (hi := hi) c2 h1 h2 s)); clear HM2 hb1)
        | (go_at_call 39; refine (HIJ.out.at lo hi (k + 3 * q + 3) _ _ _ (by omega) (by have := (HM3.out (mtext (k + 3 * q + 2))).size; omega) hlu ((HM3.out _).sk HR.out) (fun g' o' a1 a2 => ((HM3.out _).warm g' o' (by omega)).trans ((HMK.out.warm g' o' (by omega)).trans (HW.out g' o' a1 a2))) (by omega) (by omega)).mono ?_; rintro e w2 ⟨rfl, hm2⟩; have HM4 := hid_mk (HMK.out.trans ((HM3.out _).trans hm2)); clear hm2))
      refine ⟨⟨j + 1, by omega, ?_, by go_num, HM4.out⟩, by simp [intOf]; omega⟩
      rw [HNS.out]
      congr 1
      omega
    · obtain rfl : j = T.len := by omega
      go_wp2
      go_ret
      exact ⟨rfl, hmk⟩
theorem mark_nodes (T : Nd) : MkS T := by
  induction T with
  | nil => exact mkS_of _ fun i hi => absurd hi (Nat.not_lt_zero i)
  | mk k n s len kids ih => exact mkS_of _ fun i _ => ih i
set_option maxHeartbeats 1000000 in
theorem mark_node (T : Nd) (lo hi : Nat) (w : World) (v : Value) (hhi : hi ≤ w.heap.size) (hn : T.len ≤ 9223372036854775807) (hr : Row lo hi w T v) (hw : ∀ g o, lo ≤ g → g < hi → w.frozen? ⟨g, o, none⟩ = false) (hb : T.size ≤ 1048577) :
    Calls Tryd.prog 19 #[T.val v, .int .i64 1] w fun e w' => ∃ k : Nat, e = .returned (.int .i64 (k : Int)) ∧ Mk lo hi w w' := by
  have hs := T.under_size
  obtain ⟨a, cap, rfl, _⟩ := row_eq.1 hr
  have HB := hid_mk (fun o : Obj => (Below.refl w.heap.size w).alloc (Nat.le_refl _) o)
  have HM := hid_mk (fun (o : Obj) => Mk.of_below (lo := lo) (hi := hi) (HB.out o))
  have HK := hid_mk (fun o => mark_nodes T lo hi 1 (w.alloc o) (.slice a T.len cap) (by simp; omega) hn ((HM.out o).sk (sk_of_row hr)) (fun g o' h1 h2 => ((HM.out o).warm g o' (by omega)).trans (hw g o' h1 h2)) (Nat.le_refl 1) (by omega))
  unfold Nd.val
  clear hr hw
  go_enter Tryd.func19, Tryd.ntmps19
  go_wp2_with (go_at_call 39; refine (HK.out _).mono ?_; rintro e w2 ⟨rfl, hm2⟩; have HM2 := hid_mk ((HM.out _).trans hm2); clear hm2)
  go_ret
  exact ⟨_, rfl, HM2.out⟩
end Go.Proofs.YtjgbjahcnnjfpaaDoor
