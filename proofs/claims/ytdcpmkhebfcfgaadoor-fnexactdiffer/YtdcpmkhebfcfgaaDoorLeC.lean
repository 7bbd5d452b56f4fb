/- The program's comparison of two trees. -/
import Derived.Test.YtdcpmkhebfcfgaaDoorLeA
import Derived.Test.YtdcpmkhebfcfgaaDoorLaB
import Derived.RegionTactic
import Derived.BigRegion
import Derived.Deep.RegionWith
import Derived.StillTailTactics
set_option linter.unusedVariables false
namespace Go.Proofs.YtdcpmkhebfcfgaaDoor
open Go.RowKit

theorem strs_neI {a b : ByteArray} (h : ¬ a = b) : (a.toList == b.toList) = false := by rw [beq_bytes]; simpa using h

set_option maxHeartbeats 2000000 in
theorem alone_any (a b : Nd) (w : World) (u v : Value) (hu : ∃ p c l, u = .slice p l c) (hv : ∃ p c l, v = .slice p l c) :
    Calls Tryd.prog 44 #[a.val u, b.val v] w fun e w' => e = .returned (.bool (aloneB a b)) ∧ Below w.heap.size w w' := by
  obtain ⟨pu, cu, lu, rfl⟩ := hu
  obtain ⟨pv, cv, lv, rfl⟩ := hv
  unfold aloneB Nd.val
  generalize a.kind = ak at *
  generalize a.num = an at *
  generalize a.name = as' at *
  generalize b.kind = bk at *
  generalize b.num = bn at *
  generalize b.name = bs at *
  have HB : ∀ a b : Obj, Hid (Below w.heap.size w ((w.alloc a).alloc b)) := fun a b => ((Below.refl _ _).alloc (Nat.le_refl _) _).alloc (by simp) _
  by_cases h1 : ak = bk
  · by_cases h2 : an = bn
    · by_cases h3 : as' = bs
      · subst h1 h2 h3
        have e : (decide (ak = ak) && (decide (an = an) && decide (as' = as'))) = true := by simp
        rw [e]
        clear e
        go_enter Tryd.func44, Tryd.ntmps44
        go_wp2
        go_ret
        exact ⟨rfl, (HB _ _).out⟩
      · have h4 := strs_neI h3
        have e : (decide (ak = bk) && (decide (an = bn) && decide (as' = bs))) = false := by simp [h3]
        rw [e]
        clear e
        subst h1 h2
        go_enter Tryd.func44, Tryd.ntmps44
        go_wp2
        go_ret
        exact ⟨rfl, (HB _ _).out⟩
    · have e : (decide (ak = bk) && (decide (an = bn) && decide (as' = bs))) = false := by simp [h2]
      rw [e]
      clear e
      subst h1
      go_enter Tryd.func44, Tryd.ntmps44
      go_wp2
      go_ret
      exact ⟨rfl, (HB _ _).out⟩
  · have e : (decide (ak = bk) && (decide (an = bn) && decide (as' = bs))) = false := by simp [h1]
    rw [e]
    clear e
    go_enter Tryd.func44, Tryd.ntmps44
    go_wp2
    go_ret
    exact ⟨rfl, (HB _ _).out⟩

def SmC (a : Nd) : Prop := ∀ (b : Nd) (w : World) (u v : Value) (hi : Nat), a.Fine → b.Fine → hi ≤ w.heap.size → Row 0 hi w a u → Row 0 hi w b v →
  Calls Tryd.prog 26 #[a.val u, b.val v] w fun e w' => e = .returned (.bool (sameB a b)) ∧ Below w.heap.size w w'
def SmS (a : Nd) : Prop := ∀ (b : Nd) (w : World) (u v : Value) (hi : Nat), a.Fine → b.Fine → hi ≤ w.heap.size → Row 0 hi w a u → Row 0 hi w b v →
  Calls Tryd.prog 45 #[u, v, .func (.func 26) #[] #[]] w fun e w' => e = .returned (.bool (decide (a.len = b.len) && eachTo (fun i => sameB (a.kids i) (b.kids i)) a.len)) ∧ Below w.heap.size w w'

set_option maxHeartbeats 4000000 in
theorem equal_of (a : Nd) (ih : ∀ i, i < a.len → SmC (a.kids i)) : SmS a := by
  intro b w u v hi hfa hfb hhi hru hrv
  have hla := a.fine_len hfa
  have hlb := b.fine_len hfb
  obtain ⟨p, cu, rfl, hcu, hqu⟩ := row_eq.1 hru
  obtain ⟨q, cv, rfl, hcv, hqv⟩ := row_eq.1 hrv
  have HFA := hid_mk hfa
  have HFB := hid_mk hfb
  have HQA := hid_mk hqu
  have HQB := hid_mk hqv
  have HI := hid_mk ih
  generalize hG : (fun i => sameB (a.kids i) (b.kids i)) = G
  have HG' : ∀ i, G i = sameB (a.kids i) (b.kids i) := fun i => by rw [← hG]
  have HGG := hid_mk HG'
  clear hG HG' hfa hfb hru hrv hqu hqv ih hcu hcv
  by_cases hl : a.len = b.len
  · have e : (decide (a.len = b.len) && eachTo G a.len) = eachTo G a.len := by simp [hl]
    rw [e]
    clear e
    have HBL := hid_mk hl
    rw [← hl] at HQB hlb ⊢
    clear hl
    go_enter Tryd.func45, Tryd.ntmps45
    go_wp2
    go_loopw [17] (fun i wr => ∃ j : Nat, j ≤ a.len ∧ i = .int .i64 j ∧ eachTo G j = true ∧ Below w.heap.size w wr) (fun i _ => a.len - (intOf i).toNat)
    case atStart => exact ⟨0, Nat.zero_le _, rfl, rfl, Below.refl _ _⟩
    case round =>
      obtain ⟨j, hj, rfl, hall, hb⟩ := hrel
      have HALL := hid_mk hall
      have HB := hid_mk hb
      have hbz := hb.size
      clear hall
      by_cases hlt : j < a.len
      · rcases HQA.out with h0 | ⟨g, off, rfl, h1, h2, h3⟩
        · omega
        rcases HQB.out with h0 | ⟨g', off', rfl, h1', h2', h3'⟩
        · omega
        obtain ⟨x, e0, e1, e2, e3, hx⟩ := h3 j hlt
        obtain ⟨y, f0, f1, f2, f3, hy⟩ := h3' j hlt
        have hgl : g < w.heap.size := by omega
        have hgl' : g' < w.heap.size := by omega
        have hgl2 : g < wr.heap.size := by omega
        have hgl3 : g' < wr.heap.size := by omega
        rw [← hb.cell (p := ⟨g, _, none⟩) hgl] at e0 e1 e2 e3
        rw [← hb.cell (p := ⟨g', _, none⟩) hgl'] at f0 f1 f2 f3
        have HX := hid_mk (row_below hb hhi hx)
        have HY := hid_mk (row_below hb hhi hy)
        obtain ⟨xa, xc, rfl⟩ : ∃ xa xc, x = .slice xa (a.kids j).len xc := by obtain ⟨a', c', h, _⟩ := row_eq.1 hx; exact ⟨a', c', h⟩
        obtain ⟨ya, yc, rfl⟩ : ∃ xa xc, y = .slice xa (b.kids j).len xc := by obtain ⟨a', c', h, _⟩ := row_eq.1 hy; exact ⟨a', c', h⟩
        have HC : Hid (∀ W u v, Row 0 hi W (a.kids j) u → Row 0 hi W (b.kids j) v → hi ≤ W.heap.size → Calls Tryd.prog 26 #[(a.kids j).val u, (b.kids j).val v] W fun e w' => e = .returned (.bool (G j)) ∧ Below W.heap.size W w') := fun W u v r1 r2 hW => by
          rw [HGG.out j]
          exact HI.out j hlt (b.kids j) W u v hi (Nd.fine_kid HFA.out hlt) (Nd.fine_kid HFB.out (by rw [← HBL.out]; exact hlt)) hW r1 r2
        have hjl : (j : Int) < (a.len : Int) := by omega
        have HB2 : ∀ x y : Obj, Hid (Below wr.heap.size wr ((wr.alloc x).alloc y)) := fun a b => ((Below.refl _ _).alloc (Nat.le_refl _) _).alloc (by simp) _
        unfold Nd.val at HC
        clear h3 h3' hx hy HI HGG hb
        generalize a.kids j = K at *
        generalize b.kids j = L at *
        cases hg : G j with
        | true =>
          rw [hg] at HC
          have HN : Hid (eachTo G (j + 1) = true) := by
            unfold Hid; simp only [eachTo, HALL.out, hg, Bool.and_self]
          clear hg
          go_wp2_with (go_at_call 26; (refine (HC.out _ _ _ ?_ ?_ ?_).mono ?_; exact row_below (HB2 _ _).out (by omega) HX.out; exact row_below (HB2 _ _).out (by omega) HY.out; (simp; omega); rintro e w2 ⟨rfl, hb2⟩; have HBN := hid_mk (HB.out.trans (((HB2 _ _).out.trans (hb2.mono (by simp; omega))).mono hbz)); clear hb2))
          exact ⟨⟨j + 1, by omega, by go_num, HN.out, HBN.out⟩, by simp [intOf]; omega⟩
        | false =>
          rw [hg] at HC
          have HN : Hid (eachTo G a.len = false) := by
            unfold Hid
            cases e : eachTo G a.len with
            | false => rfl
            | true => have := (eachTo_iff _ _).1 e j hlt; rw [hg] at this; cases this
          clear hg
          go_wp2_with (go_at_call 26; (refine (HC.out _ _ _ ?_ ?_ ?_).mono ?_; exact row_below (HB2 _ _).out (by omega) HX.out; exact row_below (HB2 _ _).out (by omega) HY.out; (simp; omega); rintro e w2 ⟨rfl, hb2⟩; have HBN := hid_mk (HB.out.trans (((HB2 _ _).out.trans (hb2.mono (by simp; omega))).mono hbz)); clear hb2))
          go_ret
          rw [HN.out]
          exact ⟨rfl, HBN.out⟩
      · go_wp2
        go_ret
        obtain rfl : j = a.len := by omega
        rw [HALL.out]
        exact ⟨rfl, HB.out⟩
  · have e : (decide (a.len = b.len) && eachTo G a.len) = false := by simp [hl]
    rw [e]
    have hl2 : ¬ (a.len : Int) = (b.len : Int) := by omega
    clear e
    go_enter Tryd.func45, Tryd.ntmps45
    go_wp2
    go_ret
    exact ⟨rfl, Below.refl _ _⟩

set_option maxHeartbeats 2000000 in
theorem same_of (a : Nd) (h : SmS a) : SmC a := by
  intro b w u v hi hfa hfb hhi hru hrv
  rw [sameB_eq]
  obtain ⟨p, cu, rfl, hcu, _⟩ := row_eq.1 hru
  obtain ⟨q, cv, rfl, hcv, _⟩ := row_eq.1 hrv
  have HA := hid_mk (fun W => alone_any a b W (.slice p a.len cu) (.slice q b.len cv) ⟨_, _, _, rfl⟩ ⟨_, _, _, rfl⟩)
  have HS := hid_mk (fun (W : World) (hb : Below w.heap.size w W) => h b W _ _ hi hfa hfb (Nat.le_trans hhi hb.size) (row_below hb hhi hru) (row_below hb hhi hrv))
  have HB : ∀ x y : Obj, Hid (Below w.heap.size w ((w.alloc x).alloc y)) := fun a b => ((Below.refl _ _).alloc (Nat.le_refl _) _).alloc (by simp) _
  generalize (decide (a.len = b.len) && eachTo (fun i => sameB (a.kids i) (b.kids i)) a.len) = z at *
  unfold Nd.val at HA ⊢
  clear hru hrv hfa hfb h hcu hcv
  cases ha : aloneB a b with
  | true =>
    rw [ha] at HA
    simp only [Bool.true_and]
    go_enter Tryd.func26, Tryd.ntmps26
    go_wp2_with (first
      | (go_at_call 44; refine (HA.out _).mono ?_; rintro e w1 ⟨rfl, hb1⟩; obtain ⟨c1, f1⟩ := bcellO hb1; have HB1 := hid_mk ((HB _ _).out.trans (hb1.mono (by simp; omega))); have hz1 : w.heap.size + 1 + 1 ≤ w1.heap.size := (by have := hb1.size; simpa using this))
      | (go_at_call 45; refine (HS.out _ HB1.out).mono ?_; rintro e w2 ⟨rfl, hb2⟩))
    go_ret
    exact ⟨rfl, HB1.out.trans (hb2.mono (by omega))⟩
  | false =>
    rw [ha] at HA
    simp only [Bool.false_and]
    go_enter Tryd.func26, Tryd.ntmps26
    go_wp2_with (first
      | (go_at_call 44; refine (HA.out _).mono ?_; rintro e w1 ⟨rfl, hb1⟩; obtain ⟨c1, f1⟩ := bcellO hb1; have HB1 := hid_mk ((HB _ _).out.trans (hb1.mono (by simp; omega))); have hz1 : w.heap.size + 1 + 1 ≤ w1.heap.size := (by have := hb1.size; simpa using this)))
    go_ret
    exact ⟨rfl, HB1.out⟩

theorem same_any (a : Nd) : SmC a := by
  induction a with
  | nil => exact same_of _ (equal_of _ fun i hi => absurd hi (Nat.not_lt_zero i))
  | mk k n s len kids ih => exact same_of _ (equal_of _ fun i _ => ih i)
end Go.Proofs.YtdcpmkhebfcfgaaDoor
namespace Go.Proofs.YtdcpmkhebfcfgaaDoor
open Go.RowKit

set_option maxHeartbeats 4000000 in
theorem only_any (a b : Nd) (w : World) (u v : Value) (hi : Nat) (hfa : a.Fine) (hfb : b.Fine) (hhi : hi ≤ w.heap.size) (hru : Row 0 hi w a u) (hrv : Row 0 hi w b v) :
    Calls Tryd.prog 27 #[a.val u, b.val v] w fun e w' => e = .returned (.int .i64 (onlyT a b)) ∧ Below w.heap.size w w' := by
  have hla := a.fine_len hfa
  have hlb := b.fine_len hfb
  obtain ⟨p, cu, rfl, hcu, hqu⟩ := row_eq.1 hru
  obtain ⟨q, cv, rfl, hcv, hqv⟩ := row_eq.1 hrv
  have HA := hid_mk (fun W => alone_any a b W (.slice p a.len cu) (.slice q b.len cv) ⟨_, _, _, rfl⟩ ⟨_, _, _, rfl⟩)
  have HB : ∀ x y : Obj, Hid (Below w.heap.size w ((w.alloc x).alloc y)) := fun a b => ((Below.refl _ _).alloc (Nat.le_refl _) _).alloc (by simp) _
  have HFA := hid_mk hfa
  have HFB := hid_mk hfb
  have HQA := hid_mk hqu
  have HQB := hid_mk hqv
  have HSM := hid_mk same_any
  unfold onlyT
  generalize hF : (fun i => if sameB (a.kids i) (b.kids i) = true then -1 else (i : Int)) = F
  have HF' : ∀ i, F i = if sameB (a.kids i) (b.kids i) = true then -1 else (i : Int) := fun i => by rw [← hF]
  have HFF := hid_mk HF'
  clear hF HF' hru hrv hfa hfb hcu hcv hqu hqv
  unfold Nd.val at HA ⊢
  cases ha : aloneB a b with
  | false =>
    rw [ha] at HA
    simp only [Bool.false_and]
    go_enter Tryd.func27, Tryd.ntmps27
    go_wp2_with (first
      | (go_at_call 44; refine (HA.out _).mono ?_; rintro e w1 ⟨rfl, hb1⟩; obtain ⟨c1, f1⟩ := bcellO hb1; have HB1 := hid_mk ((HB _ _).out.trans (hb1.mono (by simp; omega))); have hz1 : w.heap.size + 1 + 1 ≤ w1.heap.size := (by have := hb1.size; simpa using this)))
    go_ret
    exact ⟨rfl, HB1.out⟩
  | true =>
    rw [ha] at HA
    by_cases hl : a.len = b.len
    · have e : (true && decide (a.len = b.len)) = true := by simp [hl]
      rw [if_pos e]
      clear e ha
      have HBL := hid_mk hl
      rw [← hl] at HQB hlb HA ⊢
      clear hl
      generalize a.kind = ak at *
      generalize a.num = an at *
      generalize a.name = as' at *
      generalize b.kind = bk at *
      generalize b.num = bn at *
      generalize b.name = bs at *
      go_enter Tryd.func27, Tryd.ntmps27
      go_wp2_with (first
        | (go_at_call 44; refine (HA.out _).mono ?_; rintro e w1 ⟨rfl, hb1⟩; have hz1 : w.heap.size + 1 + 1 ≤ w1.heap.size := (by have := hb1.size; simpa using this); obtain ⟨k3, k4⟩ : w1.cell? ⟨w.heap.size, 3, none⟩ = some (.slice p a.len cu) ∧ w1.cell? ⟨w.heap.size + 1, 3, none⟩ = some (.slice q a.len cv) := (by
            refine ⟨?_, ?_⟩
            · rw [(bcellO hb1).1 _ _ (by simp; omega)]; simp
            · rw [(bcellO hb1).1 _ _ (by simp)]; simp [go_sem]); have HB1 := hid_mk ((HB _ _).out.trans (hb1.mono (by simp; omega))); clear hb1))
      go_loopw [5, 24] (fun fd i wr => ∃ (j : Nat) (k : Int), j ≤ a.len ∧ i = .int .i64 j ∧ fd = .int .i64 k ∧ foundT F j = some k ∧ (k = -1 ∨ 0 ≤ k) ∧ Below w1.heap.size w1 wr) (fun _ i _ => a.len - (intOf i).toNat)
      case atStart => exact ⟨0, -1, Nat.zero_le _, rfl, rfl, rfl, .inl rfl, Below.refl _ _⟩
      case round =>
        obtain ⟨j, k, hj, rfl, rfl, hfj, hk1, hb⟩ := hrel
        have HFJ := hid_mk hfj
        have hbw := HB1.out.trans (hb.mono (by omega))
        have hbz := hb.size
        rw [← (bcellO hb).1 _ _ (by omega)] at k3 k4
        by_cases hlt : j < a.len
        · rcases HQA.out with h0 | ⟨g, off, rfl, h1, h2, h3⟩
          · omega
          rcases HQB.out with h0 | ⟨g', off', rfl, h1', h2', h3'⟩
          · omega
          obtain ⟨x, e0, e1, e2, e3, hx⟩ := h3 j hlt
          obtain ⟨y, f0, f1, f2, f3, hy⟩ := h3' j hlt
          have hgl : g < w.heap.size := by omega
          have hgl' : g' < w.heap.size := by omega
          rw [← hbw.cell (p := ⟨g, _, none⟩) hgl] at e0 e1 e2 e3
          rw [← hbw.cell (p := ⟨g', _, none⟩) hgl'] at f0 f1 f2 f3
          have HX := hid_mk (row_below hbw hhi hx)
          have HY := hid_mk (row_below hbw hhi hy)
          obtain ⟨xa, xc, rfl⟩ : ∃ xa xc, x = .slice xa (a.kids j).len xc := by obtain ⟨a', c', h, _⟩ := row_eq.1 hx; exact ⟨a', c', h⟩
          obtain ⟨ya, yc, rfl⟩ : ∃ xa xc, y = .slice xa (b.kids j).len xc := by obtain ⟨a', c', h, _⟩ := row_eq.1 hy; exact ⟨a', c', h⟩
          have HC := hid_mk (fun W u v r1 r2 hW => HSM.out (a.kids j) (b.kids j) W u v hi (Nd.fine_kid HFA.out hlt) (Nd.fine_kid HFB.out (by rw [← HBL.out]; exact hlt)) hW r1 r2)
          have HFV := hid_mk (HFF.out j)
          have hjl : (j : Int) < (a.len : Int) := by omega
          have hmix : Tryd.prog.follows Departure.mixedOrders = true := by kernel_rfl
          unfold Nd.val at HC
          clear h3 h3' hx hy HFF hfj HSM
          have HBB := hid_mk hb
          clear hbw hb
          generalize a.kids j = K at *
          generalize b.kids j = L at *
          have HBV := hid_mk ((Below.refl wr.heap.size wr).alloc (Nat.le_refl _) (.cells #[.int .i64 K.kind, .int .i64 K.num, .string K.name, .slice xa K.len xc] 29))
          have v0 := hid_mk (show ((wr.alloc (.cells #[.int .i64 K.kind, .int .i64 K.num, .string K.name, .slice xa K.len xc] 29)).cell? ⟨wr.heap.size, 0, none⟩ = some (.int .i64 K.kind) ∧ (wr.alloc (.cells #[.int .i64 K.kind, .int .i64 K.num, .string K.name, .slice xa K.len xc] 29)).cell? ⟨wr.heap.size, 1, none⟩ = some (.int .i64 K.num) ∧ (wr.alloc (.cells #[.int .i64 K.kind, .int .i64 K.num, .string K.name, .slice xa K.len xc] 29)).cell? ⟨wr.heap.size, 2, none⟩ = some (.string K.name) ∧ (wr.alloc (.cells #[.int .i64 K.kind, .int .i64 K.num, .string K.name, .slice xa K.len xc] 29)).cell? ⟨wr.heap.size, 3, none⟩ = some (.slice xa K.len xc)) by simp [go_sem])
          cases hs : sameB K L with
          | true =>
            rw [hs] at HC HFV
            go_wp2_with fail
            generalize hV : wr.alloc (.cells #[.int .i64 K.kind, .int .i64 K.num, .string K.name, .slice xa K.len xc] 29) = V at *
            obtain ⟨v0, v1, v2, v3⟩ := v0.out
            rw [← HBV.out.cell (p := ⟨g', _, none⟩) (show g' < wr.heap.size by omega)] at f0 f1 f2 f3
            rw [← HBV.out.cell (p := ⟨w.heap.size + 1, _, none⟩) (show w.heap.size + 1 < wr.heap.size by omega)] at k4
            clear e0 e1 e2 e3 k3 hV
            go_still_tail 6, hmix
            have hVz := HBV.out.size
            go_wp2_with (go_at_call 26; (refine (HC.out _ _ _ ?_ ?_ ?_).mono ?_; exact row_drew (row_below HBV.out (by omega) HX.out); exact row_drew (row_below HBV.out (by omega) HY.out); (show hi ≤ V.heap.size; omega); rintro e w2 ⟨rfl, hb2⟩; have HB2 := hid_mk hb2; clear hb2; skip))
            have hb3 : Below w1.heap.size w1 w2 := HBB.out.trans ((HBV.out.drew.trans (HB2.out.mono hVz)).mono hbz)
            exact ⟨⟨j + 1, k, by omega, by go_num, rfl, found_on HFJ.out (by rw [HFV.out]; simp), hk1, hb3⟩, by simp [intOf]; omega⟩
          | false =>
            rw [hs] at HC HFV
            rcases hk1 with rfl | hk0
            · go_wp2_with fail
              generalize hV : wr.alloc (.cells #[.int .i64 K.kind, .int .i64 K.num, .string K.name, .slice xa K.len xc] 29) = V at *
              obtain ⟨v0, v1, v2, v3⟩ := v0.out
              rw [← HBV.out.cell (p := ⟨g', _, none⟩) (show g' < wr.heap.size by omega)] at f0 f1 f2 f3
              rw [← HBV.out.cell (p := ⟨w.heap.size + 1, _, none⟩) (show w.heap.size + 1 < wr.heap.size by omega)] at k4
              clear e0 e1 e2 e3 k3 hV
              go_still_tail 6, hmix
              have hVz := HBV.out.size
              go_wp2_with (go_at_call 26; (refine (HC.out _ _ _ ?_ ?_ ?_).mono ?_; exact row_drew (row_below HBV.out (by omega) HX.out); exact row_drew (row_below HBV.out (by omega) HY.out); (show hi ≤ V.heap.size; omega); rintro e w2 ⟨rfl, hb2⟩; have HB2 := hid_mk hb2; clear hb2; skip))
              have hb3 : Below w1.heap.size w1 w2 := HBB.out.trans ((HBV.out.drew.trans (HB2.out.mono hVz)).mono hbz)
              have hfv : F j = (j : Int) := by rw [HFV.out]; simp
              exact ⟨⟨j + 1, (j : Int), by omega, by go_num, rfl, by rw [← hfv]; exact found_up HFJ.out (by omega) (by omega), .inr (by omega), hb3⟩, by simp [intOf]; omega⟩
            · have hk2 : (k != -1) = true := by simp; omega
              go_wp2_with fail
              generalize hV : wr.alloc (.cells #[.int .i64 K.kind, .int .i64 K.num, .string K.name, .slice xa K.len xc] 29) = V at *
              obtain ⟨v0, v1, v2, v3⟩ := v0.out
              rw [← HBV.out.cell (p := ⟨g', _, none⟩) (show g' < wr.heap.size by omega)] at f0 f1 f2 f3
              rw [← HBV.out.cell (p := ⟨w.heap.size + 1, _, none⟩) (show w.heap.size + 1 < wr.heap.size by omega)] at k4
              clear e0 e1 e2 e3 k3 hV
              go_still_tail 6, hmix
              have hVz := HBV.out.size
              go_wp2_with (go_at_call 26; (refine (HC.out _ _ _ ?_ ?_ ?_).mono ?_; exact row_drew (row_below HBV.out (by omega) HX.out); exact row_drew (row_below HBV.out (by omega) HY.out); (show hi ≤ V.heap.size; omega); rintro e w2 ⟨rfl, hb2⟩; have HB2 := hid_mk hb2; clear hb2; skip))
              have hb3 : Below w1.heap.size w1 w2 := HBB.out.trans ((HBV.out.drew.trans (HB2.out.mono hVz)).mono hbz)
              have hfv : F j = (j : Int) := by rw [HFV.out]; simp
              go_ret
              rw [found_none (found_two' HFJ.out (by omega) hk0) (show j + 1 ≤ a.len by omega)]
              exact ⟨rfl, HB1.out.trans (hb3.mono (by omega))⟩
        · go_wp2
          go_ret
          obtain rfl : j = a.len := by omega
          rw [hfj]
          exact ⟨rfl, hbw⟩
    · have e : ¬ (true && decide (a.len = b.len)) = true := by simp [hl]
      rw [if_neg e]
      have hl2 : ¬ (a.len : Int) = (b.len : Int) := by omega
      clear e
      go_enter Tryd.func27, Tryd.ntmps27
      go_wp2_with (first
        | (go_at_call 44; refine (HA.out _).mono ?_; rintro e w1 ⟨rfl, hb1⟩; obtain ⟨c1, f1⟩ := bcellO hb1; have HB1 := hid_mk ((HB _ _).out.trans (hb1.mono (by simp; omega))); have hz1 : w.heap.size + 1 + 1 ≤ w1.heap.size := (by have := hb1.size; simpa using this)))
      go_ret
      exact ⟨rfl, HB1.out⟩
end Go.Proofs.YtdcpmkhebfcfgaaDoor
