/- The specification's least node outside of which two trees are the same. -/
import Derived.Test.YtdcpmkhebfcfgaaDoorLeA
import Derived.Test.YtdcpmkhebfcfgaaDoorLaB
import Derived.RegionTactic
import Derived.BigRegion
import Derived.Deep.RegionWith
import Derived.Deep.LoopGhost
import Derived.StillTailTactics
import Derived.Test.YtdcpmkhebfcfgaaDoorLbI
set_option linter.unusedVariables false
namespace Go.Proofs.YtdcpmkhebfcfgaaDoor
open Go.RowKit

theorem strs_ne {a b : ByteArray} (h : ¬ a = b) : (a.toList == b.toList) = false := by rw [beq_bytes]; simpa using h
def DfC (a : Nd) : Prop := ∀ (b : Nd) (w : World) (u v : Value) (hi at' : Nat), a.Fine → b.Fine → hi ≤ w.heap.size → Row 0 hi w a u → Row 0 hi w b v → a.cost ≤ 1048576 → at' + a.size ≤ 1099511627776 →
  Calls Tryd.prog 25 #[a.val u, b.val v, .int .i64 at'] w fun e w' => e = .returned (.int .i64 (diffT a b at')) ∧ Below w.heap.size w w'

set_option maxHeartbeats 2000000 in
theorem differ_no (a b : Nd) (w : World) (u v : Value) (at' : Nat) (hfa : a.Fine) (hfb : b.Fine) (hu : ∃ p c, u = .slice p a.len c) (hv : ∃ p c, v = .slice p b.len c) (h : (aloneB a b && decide (a.len = b.len)) = false) :
    Calls Tryd.prog 25 #[a.val u, b.val v, .int .i64 at'] w fun e w' => e = .returned (.int .i64 (at' : Int)) ∧ Below w.heap.size w w' := by
  have hla := a.fine_len hfa
  have hlb := b.fine_len hfb
  obtain ⟨pu, cu, rfl⟩ := hu
  obtain ⟨pv, cv, rfl⟩ := hv
  unfold aloneB at h
  unfold Nd.val
  clear hfa hfb
  generalize a.kind = ak at *
  generalize a.num = an at *
  generalize a.name = as' at *
  generalize a.len = al at *
  generalize b.kind = bk at *
  generalize b.num = bn at *
  generalize b.name = bs at *
  generalize b.len = bl at *
  have HB : ∀ a b : Obj, Hid (Below w.heap.size w ((w.alloc a).alloc b)) := fun a b => ((Below.refl _ _).alloc (Nat.le_refl _) _).alloc (by simp) _
  by_cases h1 : ak = bk
  · by_cases h2 : an = bn
    · by_cases h3 : as' = bs
      · have h4 : ¬ al = bl := by simpa [h1, h2, h3] using h
        have h5 : ¬ (al : Int) = (bl : Int) := by omega
        subst h1 h2 h3
        clear h
        go_enter Tryd.func25, Tryd.ntmps25
        go_wp2
        go_ret
        exact ⟨rfl, (HB _ _).out⟩
      · have h4 := strs_ne h3
        subst h1 h2
        clear h
        go_enter Tryd.func25, Tryd.ntmps25
        go_wp2
        go_ret
        exact ⟨rfl, (HB _ _).out⟩
    · subst h1
      clear h
      go_enter Tryd.func25, Tryd.ntmps25
      go_wp2
      go_ret
      exact ⟨rfl, (HB _ _).out⟩
  · clear h
    go_enter Tryd.func25, Tryd.ntmps25
    go_wp2
    go_ret
    exact ⟨rfl, (HB _ _).out⟩

set_option maxHeartbeats 4000000 in
theorem differ_yes (a b : Nd) (ih : ∀ i, i < a.len → DfC (a.kids i)) (h : (aloneB a b && decide (a.len = b.len)) = true) (w : World) (u v : Value) (hi at' : Nat) (hfa : a.Fine) (hfb : b.Fine) (hhi : hi ≤ w.heap.size)
    (hru : Row 0 hi w a u) (hrv : Row 0 hi w b v) (hc : a.cost ≤ 1048576) (hat : at' + a.size ≤ 1099511627776) :
    Calls Tryd.prog 25 #[a.val u, b.val v, .int .i64 at'] w fun e w' => e = .returned (.int .i64 ((foundT (fun i => diffT (a.kids i) (b.kids i) (kidAt a at' i)) a.len).getD (at' : Int))) ∧ Below w.heap.size w w' := by
  have hla := a.fine_len hfa
  have hck : ∀ j, j < a.len → (a.kids j).cost ≤ 1048576 := fun j hj => Nat.le_trans (a.cost_kid hj) hc
  have hkl : ∀ j, j < a.len → kidAt a at' j + (a.kids j).size ≤ 1099511627776 := fun j hj => Nat.le_trans (kidAt_le a at' hj) hat
  obtain ⟨p, cu, rfl, hcu, hqu⟩ := row_eq.1 hru
  obtain ⟨q, cv, rfl, hcv, hqv⟩ := row_eq.1 hrv
  simp only [aloneB, Bool.and_eq_true, decide_eq_true_eq] at h
  obtain ⟨⟨h1, h2, h3⟩, h4⟩ := h
  have HATS := hid_mk (fun W v hi hhi hr => ats_any a W v hi at' hfa hhi hr hc (by omega))
  have HFA := hid_mk hfa
  have HFB := hid_mk hfb
  have HRA := hid_mk hru
  have HQA := hid_mk hqu
  have HQB := hid_mk hqv
  have HI := hid_mk ih
  have HK := hid_mk hck
  have HL := hid_mk hkl
  clear hfa hfb hru hrv hqu hqv ih hck hkl hc hat hcu hcv
  unfold Nd.val at HATS ⊢
  generalize hF : (fun i => diffT (a.kids i) (b.kids i) (kidAt a at' i)) = F
  have HF' : ∀ i, F i = diffT (a.kids i) (b.kids i) (kidAt a at' i) := fun i => by rw [← hF]
  have HFF := hid_mk HF'
  clear hF HF'
  have HBL := hid_mk h4
  rw [← h4] at HQB
  rw [← h1, ← h2, ← h3, ← h4]
  clear h1 h2 h3 h4
  generalize a.kind = ak at *
  generalize a.num = an at *
  generalize a.name = as' at *
  have HB : ∀ x y : Obj, Hid (Below w.heap.size w ((w.alloc x).alloc y)) := fun a b => ((Below.refl _ _).alloc (Nat.le_refl _) _).alloc (by simp) _
  go_enter Tryd.func25, Tryd.ntmps25
  go_wp2_with (go_at_call 43; refine (HATS.out _ _ hi (by simp; omega) (row_below (HB _ _).out hhi HRA.out)).mono ?_; rintro e w1 ⟨tv, rfl, hts, hb1⟩; obtain ⟨tb, tc, rfl, _, _, htq⟩ := hts; have HTQ := hid_mk htq; clear htq)
  have hz1 := hb1.size
  simp only [World.size_alloc] at hz1
  have B1 := hid_mk ((HB _ _).out.trans (hb1.mono (by simp; omega)))
  obtain ⟨k3, k4⟩ : w1.cell? ⟨w.heap.size, 3, none⟩ = some (.slice p a.len cu) ∧ w1.cell? ⟨w.heap.size + 1, 3, none⟩ = some (.slice q a.len cv) := by
    refine ⟨?_, ?_⟩
    · rw [(bcellO hb1).1 _ _ (by simp; omega)]; simp
    · rw [(bcellO hb1).1 _ _ (by simp)]; simp [go_sem]
  clear hb1 HATS HRA
  go_loopw [8, 9] (fun fd i wr => ∃ (j : Nat) (k : Int), j ≤ a.len ∧ i = .int .i64 j ∧ fd = .int .i64 k ∧ foundT F j = some k ∧ Below w1.heap.size w1 wr) (fun _ i _ => a.len - (intOf i).toNat)
  case atStart => exact ⟨0, -1, Nat.zero_le _, rfl, rfl, rfl, Below.refl _ _⟩
  case round =>
    obtain ⟨j, k, hj, rfl, rfl, hfj, hb⟩ := hrel
    have HFJ := hid_mk hfj
    have hbw := B1.out.trans (hb.mono (by omega))
    have hbz := hb.size
    rw [← (bcellO hb).1 _ _ (by omega)] at k3 k4
    by_cases hlt : j < a.len
    · rcases HQA.out with h0 | ⟨g, off, rfl, h1, h2, h3⟩
      · omega
      rcases HQB.out with h0 | ⟨g', off', rfl, h1', h2', h3'⟩
      · omega
      rcases HTQ.out with h0 | ⟨g2, off2, rfl, l1, l2, l3⟩
      · omega
      obtain ⟨x, e0, e1, e2, e3, hx⟩ := h3 j hlt
      obtain ⟨y, f0, f1, f2, f3, hy⟩ := h3' j hlt
      have t0 := l3 j hlt
      have hgl : g < w.heap.size := by omega
      have hgl' : g' < w.heap.size := by omega
      rw [← hbw.cell (p := ⟨g, _, none⟩) hgl] at e0 e1 e2 e3
      rw [← hbw.cell (p := ⟨g', _, none⟩) hgl'] at f0 f1 f2 f3
      rw [← (bcellO hb).1 _ _ l2] at t0
      have HX := hid_mk (row_below hbw hhi hx)
      have HY := hid_mk (row_below hbw hhi hy)
      have HC : Hid (∀ W u v, Row 0 hi W (a.kids j) u → Row 0 hi W (b.kids j) v → hi ≤ W.heap.size → Calls Tryd.prog 25 #[(a.kids j).val u, (b.kids j).val v, .int .i64 (kidAt a at' j : Nat)] W fun e w' => e = .returned (.int .i64 (F j)) ∧ Below W.heap.size W w') := fun W u v r1 r2 hW => by
        rw [HFF.out j]
        exact HI.out j hlt (b.kids j) W u v hi (kidAt a at' j) (Nd.fine_kid HFA.out hlt) (Nd.fine_kid HFB.out (by rw [← HBL.out]; exact hlt)) hW r1 r2 (HK.out j hlt) (HL.out j hlt)
      unfold Nd.val at HC
      clear h3 h3' hx hy l3 HI HFF hfj
      have HBW := hid_mk hbw
      have HBB := hid_mk hb
      clear hbw hb
      generalize a.kids j = K at *
      generalize b.kids j = L at *
      generalize kidAt a at' j = kj at *
      generalize hFj : F j = fj at *
      have HFV := hid_mk hFj
      clear hFj
      have hjl : (j : Int) < (a.len : Int) := by omega
      have hmix : Tryd.prog.follows Departure.mixedOrders = true := by kernel_rfl
      by_cases g0 : 0 ≤ fj
      · by_cases g1 : 0 ≤ k
        · go_wp2_with fail
          go_still_tail 14, hmix
          go_wp2_with (go_at_call 25; (refine (HC.out _ _ _ ?_ ?_ ?_).mono ?_; exact row_drew HX.out; exact row_drew HY.out; (show hi ≤ wr.heap.size; omega); rintro e w2 ⟨rfl, hb2⟩; have HB2 := hid_mk hb2; clear hb2; skip))
          have hb3 : Below w1.heap.size w1 w2 := HBB.out.drew.trans (HB2.out.mono hbz)
          go_ret
          rw [found_none (found_two' HFJ.out (by rw [HFV.out]; exact g0) g1) (show j + 1 ≤ a.len by omega)]
          exact ⟨rfl, B1.out.trans (hb3.mono (by omega))⟩
        · go_wp2_with fail
          go_still_tail 14, hmix
          go_wp2_with (go_at_call 25; (refine (HC.out _ _ _ ?_ ?_ ?_).mono ?_; exact row_drew HX.out; exact row_drew HY.out; (show hi ≤ wr.heap.size; omega); rintro e w2 ⟨rfl, hb2⟩; have HB2 := hid_mk hb2; clear hb2; skip))
          have hb3 : Below w1.heap.size w1 w2 := HBB.out.drew.trans (HB2.out.mono hbz)
          exact ⟨⟨j + 1, fj, by omega, by go_num, rfl, by rw [← HFV.out]; exact found_up HFJ.out (by rw [HFV.out]; exact g0) (by omega), hb3⟩, by simp [intOf]; omega⟩
      · go_wp2_with fail
        go_still_tail 14, hmix
        go_wp2_with (go_at_call 25; (refine (HC.out _ _ _ ?_ ?_ ?_).mono ?_; exact row_drew HX.out; exact row_drew HY.out; (show hi ≤ wr.heap.size; omega); rintro e w2 ⟨rfl, hb2⟩; have HB2 := hid_mk hb2; clear hb2; skip))
        have hb3 : Below w1.heap.size w1 w2 := HBB.out.drew.trans (HB2.out.mono hbz)
        exact ⟨⟨j + 1, k, by omega, by go_num, rfl, found_on HFJ.out (by rw [HFV.out]; omega), hb3⟩, by simp [intOf]; omega⟩
    · go_wp2
      go_ret
      obtain rfl : j = a.len := by omega
      rw [hfj]
      exact ⟨rfl, hbw⟩

theorem differ_of (a : Nd) (ih : ∀ i, i < a.len → DfC (a.kids i)) : DfC a := by
  intro b w u v hi at' hfa hfb hhi hru hrv hc hat
  rw [diffT_eq]
  cases h : (aloneB a b && decide (a.len = b.len)) with
  | true => simpa using differ_yes a b ih h w u v hi at' hfa hfb hhi hru hrv hc hat
  | false =>
    obtain ⟨p, c, hu, _⟩ := row_eq.1 hru
    obtain ⟨q, d, hv, _⟩ := row_eq.1 hrv
    simpa using differ_no a b w u v at' hfa hfb ⟨p, c, hu⟩ ⟨q, d, hv⟩ h
theorem differ_any (a : Nd) : DfC a := by
  induction a with
  | nil => exact differ_of _ fun i hi => absurd hi (Nat.not_lt_zero i)
  | mk k n s len kids ih => exact differ_of _ fun i _ => ih i
end Go.Proofs.YtdcpmkhebfcfgaaDoor
namespace Go.Proofs.YtdcpmkhebfcfgaaDoor
open Go.RowKit

def dNum (a b : Nd) : Int := if (treeB a && treeB b) = true then (if sameB a b = true then 0 else diffT a b 0) else 0
def dCode (a b : Nd) : Int := if (treeB a && treeB b) = true then (if sameB a b = true then 12 else 0) else 1

set_option maxHeartbeats 4000000 in
theorem spec_differ (a b : Nd) (w : World) (u v : Value) (hi : Nat) (hfa : a.Fine) (hfb : b.Fine) (hhi : hi ≤ w.heap.size) (hru : Row 0 hi w a u) (hrv : Row 0 hi w b v) (hc : a.cost ≤ 1048576) :
    Calls Tryd.prog 11 #[a.val u, b.val v] w fun e w' => e = .returned (.tuple #[.int .i64 (dNum a b), .int .i64 (dCode a b)]) ∧ Below w.heap.size w w' := by
  obtain ⟨p, cu, rfl, -, -⟩ := row_eq.1 hru
  obtain ⟨q, cv, rfl, -, -⟩ := row_eq.1 hrv
  have HTA := hid_mk (fun W hb => spec_tree a W (.slice p a.len cu) hi hfa (Nat.le_trans hhi (Below.size hb)) (row_below hb hhi hru))
  have HTB := hid_mk (fun W hb => spec_tree b W (.slice q b.len cv) hi hfb (Nat.le_trans hhi (Below.size hb)) (row_below hb hhi hrv))
  have hsc := a.size_cost
  have HD := hid_mk (fun W hb => show Calls Tryd.prog 25 #[a.val (.slice p a.len cu), b.val (.slice q b.len cv), .int .i64 0] W fun e w' => e = .returned (.int .i64 (diffT a b 0)) ∧ Below W.heap.size W w' from differ_any a b W (.slice p a.len cu) (.slice q b.len cv) hi 0 hfa hfb (Nat.le_trans hhi (Below.size hb)) (row_below hb hhi hru) (row_below hb hhi hrv) hc (by omega))
  have HB : ∀ x y : Obj, Hid (Below w.heap.size w ((w.alloc x).alloc y)) := fun a b => ((Below.refl _ _).alloc (Nat.le_refl _) _).alloc (by simp) _
  have hds := diff_same a b 0
  unfold dNum dCode
  unfold Nd.val at HTA HTB HD ⊢
  clear hru hrv hfa hfb
  generalize a.kind = ak at *
  generalize a.num = an at *
  generalize a.name = as' at *
  generalize b.kind = bk at *
  generalize b.num = bn at *
  generalize b.name = bs at *
  cases ha : treeB a with
  | false =>
    rw [ha] at HTA
    simp only [Bool.false_and]
    go_enter Tryd.func11, Tryd.ntmps11
    go_wp2_with (go_at_call 7; refine (HTA.out _ (HB _ _).out).mono ?_; rintro e w1 ⟨rfl, hb1⟩)
    go_ret2
    exact ⟨rfl, (HB _ _).out.trans (hb1.mono (by simp; omega))⟩
  | true =>
    rw [ha] at HTA
    cases hb : treeB b with
    | false =>
      rw [hb] at HTB
      simp only [Bool.and_false]
      have P1 := hid_mk True.intro
      go_enter Tryd.func11, Tryd.ntmps11
      go_wp2_with (first
        | (clear P1; go_at_call 7; refine (HTA.out _ (HB _ _).out).mono ?_; rintro e w1 ⟨rfl, hb1⟩; obtain ⟨c1, f1⟩ := bcellO hb1; have HB1 := hid_mk ((HB _ _).out.trans (hb1.mono (by simp; omega))); have hz1 : w.heap.size + 1 + 1 ≤ w1.heap.size := (by have := hb1.size; simpa using this); have hz1a : w.heap.size < w1.heap.size := (by omega); have hz1b : w.heap.size + 1 < w1.heap.size := (by omega))
        | (go_at_call 7; refine (HTB.out _ HB1.out).mono ?_; rintro e w2 ⟨rfl, hb2⟩))
      go_ret2
      exact ⟨rfl, HB1.out.trans (hb2.mono (by omega))⟩
    | true =>
      rw [hb] at HTB
      have P1 := hid_mk True.intro
      simp only [Bool.and_self, if_true]
      cases hs : sameB a b with
      | true =>
        rw [hds.1 hs] at HD
        clear hds
        go_enter Tryd.func11, Tryd.ntmps11
        go_wp2_with (first
          | (clear P1; go_at_call 7; refine (HTA.out _ (HB _ _).out).mono ?_; rintro e w1 ⟨rfl, hb1⟩; obtain ⟨c1, f1⟩ := bcellO hb1; have HB1 := hid_mk ((HB _ _).out.trans (hb1.mono (by simp; omega))); have hz1 : w.heap.size + 1 + 1 ≤ w1.heap.size := (by have := hb1.size; simpa using this); have hz1a : w.heap.size < w1.heap.size := (by omega); have hz1b : w.heap.size + 1 < w1.heap.size := (by omega))
          | (go_at_call 7; refine (HTB.out _ HB1.out).mono ?_; rintro e w2 ⟨rfl, hb2⟩; obtain ⟨c2, f2⟩ := bcellO hb2; have HB2 := hid_mk (HB1.out.trans (hb2.mono (by omega))); have hz2 := hb2.size; have hz2a : w.heap.size < w2.heap.size := (by omega); have hz2b : w.heap.size + 1 < w2.heap.size := (by omega))
          | (go_at_call 25; refine (HD.out _ HB2.out).mono ?_; rintro e w3 ⟨rfl, hb3⟩))
        go_ret2
        exact ⟨rfl, HB2.out.trans (hb3.mono (by omega))⟩
      | false =>
        have hd0 := hds.2 hs
        clear hds
        simp only [Bool.false_eq_true, if_false]
        generalize diffT a b 0 = dd at *
        have hd1 : ¬ dd < 0 := by omega
        go_enter Tryd.func11, Tryd.ntmps11
        go_wp2_with (first
          | (clear P1; go_at_call 7; refine (HTA.out _ (HB _ _).out).mono ?_; rintro e w1 ⟨rfl, hb1⟩; obtain ⟨c1, f1⟩ := bcellO hb1; have HB1 := hid_mk ((HB _ _).out.trans (hb1.mono (by simp; omega))); have hz1 : w.heap.size + 1 + 1 ≤ w1.heap.size := (by have := hb1.size; simpa using this); have hz1a : w.heap.size < w1.heap.size := (by omega); have hz1b : w.heap.size + 1 < w1.heap.size := (by omega))
          | (go_at_call 7; refine (HTB.out _ HB1.out).mono ?_; rintro e w2 ⟨rfl, hb2⟩; obtain ⟨c2, f2⟩ := bcellO hb2; have HB2 := hid_mk (HB1.out.trans (hb2.mono (by omega))); have hz2 := hb2.size; have hz2a : w.heap.size < w2.heap.size := (by omega); have hz2b : w.heap.size + 1 < w2.heap.size := (by omega))
          | (go_at_call 25; refine (HD.out _ HB2.out).mono ?_; rintro e w3 ⟨rfl, hb3⟩))
        go_ret2
        exact ⟨rfl, HB2.out.trans (hb3.mono (by omega))⟩
end Go.Proofs.YtdcpmkhebfcfgaaDoor
