/- The laws' marks in a list of what was seen, and in a report. -/
import Derived.Test.YtnjidekfmmebiaaDoorJdMark
set_option linter.unusedVariables false
namespace Go.Proofs.YtnjidekfmmebiaaDoor
open Go.RowKit

/-- A list of what was seen, whatever numbers stand in it. -/
def SkS (lo hi : Nat) (w : World) (ss : List Sn) (v : Value) : Prop := ∃ a cap, v = .slice a ss.length cap ∧ (ss.length = 0 ∨ ∃ g off, a = some ⟨g, off, none⟩ ∧ lo ≤ g ∧ g < hi ∧ ∀ i (h : i < ss.length),
  ∃ (p q r : Int) (x y : Value), Five w g (off + i * 5) (.int .i64 p) (.int .i64 q) (.int .i64 r) x y ∧ SkI lo hi w (ss[i]).tr.length x ∧ SkI lo hi w (ss[i]).sc.length y)
theorem SkS.of {lo hi : Nat} {w : World} {ss : List Sn} {v : Value} (h : Rw lo hi w ss v) : SkS lo hi w ss v := by
  obtain ⟨a, cap, rfl, h⟩ := h
  refine ⟨a, cap, rfl, ?_⟩
  rcases h with h | ⟨g, off, ha, h1, h2, h3⟩
  · exact .inl h
  · refine .inr ⟨g, off, ha, h1, h2, fun i hi => ?_⟩
    obtain ⟨x, y, hf, hat⟩ := h3 i hi
    exact ⟨_, _, _, x, y, hf, SkI.of hat.1, SkI.of hat.2⟩
theorem SkI.shape {lo hi n : Nat} {w : World} {v : Value} (h : SkI lo hi w n v) : ∃ a c, v = .slice a n c := by obtain ⟨a, c, h, _⟩ := h; exact ⟨a, c, h⟩

theorem mark_ints_at (x : Int) (n k : Nat) (v : Value) (lo hi : Nat) (w : World) (hx : x = (k : Int)) (hhi : hi ≤ w.heap.size) (h : SkI lo hi w n v) (hw : ∀ g o, lo ≤ g → g < hi → w.frozen? ⟨g, o, none⟩ = false) (hkn : k + n ≤ 1099511627776) :
    Calls Tryd.prog 17 #[v, .int .i64 x] w fun e w' => e = .returned (.int .i64 ((k + n : Nat) : Int)) ∧ Mw lo hi w w' := by
  subst hx
  exact (mark_ints n k v lo hi w hhi h hw hkn).mono fun e w' ⟨h1, h2, _⟩ => ⟨h1, h2⟩

set_option maxHeartbeats 8000000 in
set_option maxRecDepth 100000 in
theorem mark_seens (ss : List Sn) (k : Nat) (v : Value) (lo hi : Nat) (w : World) (hc : costS ss ≤ 1048576) (hhi : hi ≤ w.heap.size) (h : SkS lo hi w ss v) (hw : ∀ g o, lo ≤ g → g < hi → w.frozen? ⟨g, o, none⟩ = false) (hk : k ≤ 100000000) :
    Calls Tryd.prog 25 #[v, .int .i64 (k : Int)] w fun e w' => ∃ m : Nat, e = .returned (.int .i64 (m : Int)) ∧ m ≤ k + 4194304 ∧ Mw lo hi w w' := by
  have hl20 : ss.length ≤ 1048576 := Nat.le_trans (len_cost ss) hc
  obtain ⟨a, cap, rfl, hq⟩ := h
  have HQ := hid_mk hq
  have HW := hid_mk hw
  have HC := hid_mk hc
  clear hq hw hc
  go_enter Tryd.func25, Tryd.ntmps25
  go_wp2
  go_loopw [1, 5] (fun kv i wr => ∃ (j m : Nat), j ≤ ss.length ∧ kv = .int .i64 (m : Int) ∧ i = .int .i64 j ∧ Hid (m + ss.length ≤ k + 3 * j + costTo ss j) ∧ Mw lo hi w wr) (fun _ i _ => ss.length - (intOf i).toNat)
  case atStart => exact ⟨0, k, by omega, rfl, rfl, by unfold Hid; simp [costTo], Mw.refl _ _ _⟩
  case round =>
    obtain ⟨j, m, hj, rfl, rfl, hm, hmw⟩ := hrel
    by_cases hlt : j < ss.length
    · rcases HQ.out with h0 | ⟨g, off, rfl, h1, h2, h3⟩
      · omega
      obtain ⟨p, q, r, x, y, hf, hx, hy⟩ := h3 j hlt
      have hsucc := costTo_succ ss j hlt
      have hmono := costTo_mono ss (show j + 1 ≤ ss.length from hlt)
      have hcc : costTo ss ss.length ≤ 1048576 := HC.out
      have hco : (ss[j]).cost = (ss[j]).tr.length + (ss[j]).sc.length := rfl
      have hmm := hm.out
      have HX := hid_mk (hmw.ski hx)
      have HY := hid_mk (hmw.ski hy)
      obtain ⟨xa, xc, rfl⟩ := hx.shape
      obtain ⟨ya, yc, rfl⟩ := hy.shape
      obtain ⟨f0, f1, f2, f3, f4⟩ := hf
      obtain ⟨p', e0⟩ := hmw.ints _ _ _ f0
      obtain ⟨q', e1⟩ := hmw.ints _ _ _ f1
      obtain ⟨r', e2⟩ := hmw.ints _ _ _ f2
      have e3 := hmw.slcs _ _ _ _ _ f3
      have E4 := hid_mk (hmw.slcs _ _ _ _ _ f4)
      have hfz : ∀ o, wr.frozen? ⟨g, o, none⟩ = false := fun o => (hmw.warm g o (by omega)).trans (HW.out g o h1 h2)
      have HWR := hid_mk (fun g o (a1 : lo ≤ g) (a2 : g < hi) => (hmw.warm g o (by omega)).trans (HW.out g o a1 a2))
      have hzr := hmw.size
      generalize (ss[j]).tr.length = n1 at *
      generalize (ss[j]).sc.length = n2 at *
      have HMM := hid_mk hmw
      have hji : (j : Int) < (ss.length : Int) := by omega
      have HM3 : Hid (∀ a b c : Int, Mw lo hi wr (((wr.setCell ⟨g, off + j * 5, none⟩ (.int .i64 a)).setCell ⟨g, off + j * 5 + 1, none⟩ (.int .i64 b)).setCell ⟨g, off + j * 5 + 2, none⟩ (.int .i64 c))) := by
        intro a b c
        have m1 := Mw.setInt (lo := lo) (hi := hi) e0 h1 h2 a
        obtain ⟨y1, e1'⟩ := m1.ints _ _ _ e1
        have m2 := m1.trans (Mw.setInt e1' h1 h2 b)
        obtain ⟨y2, e2'⟩ := m2.ints _ _ _ e2
        exact m2.trans (Mw.setInt e2' h1 h2 c)
      have HN : Hid (m + 3 + n1 + n2 + ss.length ≤ k + 3 * (j + 1) + costTo ss (j + 1)) := by unfold Hid; omega
      have hb1 : m + 3 + n1 + n2 ≤ 200000000 := by omega
      clear h3 f0 f1 f2 f3 f4 hx hy hmw hm hmm hsucc hmono hcc hco
      have P1 : Hid True := trivial
      go_wp2_with (first
        | (go_at_call 17; clear P1; refine (mark_ints_at _ n1 (m + 3) _ lo hi _ (by omega) (by have := (HM3.out (m : Int) ((m : Int) + 1) ((m : Int) + 1 + 1)).size; omega) ((HM3.out _ _ _).ski HX.out) (fun g' o' a1 a2 => ((HM3.out _ _ _).warm g' o' (by omega)).trans (HWR.out g' o' a1 a2)) (by omega)).mono ?_; rintro e w1 ⟨rfl, hm1⟩; have HM4 := hid_mk ((HM3.out _ _ _).trans hm1); have e4 := HM4.out.slcs _ _ _ _ _ E4.out; clear hm1)
        | (go_at_call 17; refine (mark_ints_at _ n2 (m + 3 + n1) _ lo hi _ rfl (by have := HM4.out.size; omega) (HM4.out.ski HY.out) (fun g' o' a1 a2 => (HM4.out.warm g' o' (by omega)).trans (HWR.out g' o' a1 a2)) (by omega)).mono ?_; rintro e w2 ⟨rfl, hm2⟩; have HM5 := hid_mk (HMM.out.trans (HM4.out.trans hm2)); clear hm2))
      exact ⟨⟨j + 1, m + 3 + n1 + n2, by omega, rfl, by go_num, HN.out, HM5.out⟩, by simp [intOf]; omega⟩
    · obtain rfl : j = ss.length := by omega
      have hcc : costTo ss ss.length ≤ 1048576 := HC.out
      have hmm := hm.out
      have HB : Hid (m ≤ k + 4194304) := by unfold Hid; omega
      clear hcc hmm hm
      go_wp2
      go_ret
      exact ⟨m, rfl, HB.out, hmw⟩

/-- A report: what was seen, whether that is all, how many runs. -/
structure Rp where
  ls : List Sn
  ex : Bool
  ru : Int
def Rp.val (R : Rp) (v : Value) : Value := .agg #[v, .bool R.ex, .int .i64 R.ru]

set_option maxHeartbeats 4000000 in
theorem mark_report (R : Rp) (k : Nat) (v : Value) (lo hi : Nat) (w : World) (hc : costS R.ls ≤ 1048576) (hhi : hi ≤ w.heap.size) (h : SkS lo hi w R.ls v) (hw : ∀ g o, lo ≤ g → g < hi → w.frozen? ⟨g, o, none⟩ = false) (hk : k ≤ 100000000) :
    Calls Tryd.prog 16 #[R.val v, .int .i64 (k : Int)] w fun e w' => ∃ m : Nat, e = .returned (.int .i64 (m : Int)) ∧ m ≤ k + 4194304 ∧ Mw lo hi w w' := by
  have hsh : ∃ a c, v = .slice a R.ls.length c := by obtain ⟨a, c, h, _⟩ := h; exact ⟨a, c, h⟩
  obtain ⟨a, c, rfl⟩ := hsh
  have HM := hid_mk (fun o : Obj => Mw.of_below (lo := lo) (hi := hi) ((Below.refl w.heap.size w).alloc (Nat.le_refl _) o))
  have C := hid_mk (fun o : Obj => mark_seens R.ls k (.slice a R.ls.length c) lo hi (w.alloc o) hc (by simp; omega) (by
    obtain ⟨a', c', e, hq⟩ := h
    refine ⟨a', c', e, ?_⟩
    rcases hq with h0 | ⟨g, off, ha, h1, h2, h3⟩
    · exact .inl h0
    · refine .inr ⟨g, off, ha, h1, h2, fun i hi => ?_⟩
      obtain ⟨p, q, r, x, y, hf, hx, hy⟩ := h3 i hi
      exact ⟨p, q, r, x, y, hf.keep ((Below.refl w.heap.size w).alloc (Nat.le_refl _) o) (by omega), (HM.out o).ski hx, (HM.out o).ski hy⟩) (fun g o' h1 h2 => ((HM.out o).warm g o' (by omega)).trans (hw g o' h1 h2)) hk)
  clear h hw hc
  unfold Rp.val
  go_enter Tryd.func16, Tryd.ntmps16
  go_wp2_with (go_at_call 25; refine (C.out _).mono ?_; rintro e w1 ⟨m, rfl, hm1, hm2⟩; have H1 := hid_mk hm1; have H2 := hid_mk ((HM.out _).trans hm2); clear hm1 hm2)
  go_ret
  exact ⟨m, rfl, H1.out, H2.out⟩
end Go.Proofs.YtnjidekfmmebiaaDoor
