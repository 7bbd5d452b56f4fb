import Derived.Test.YtkfbbdhidecefaaDoorUTC
import Derived.Deep.RegionHeld
import Derived.Test.YtkfbbdhidecefaaDoorUKbH
set_option linter.unusedVariables false
set_option maxHeartbeats 16000000
set_option maxRecDepth 100000
namespace Go.Proofs.YtkfbbdhidecefaaDoor
open Go.RowKit
variable {G : Prop}
theorem bi0 (h : G := by
 obtain ⟨uk, MD, IX⟩ := HKK.out k (by omega)
 have hq := HPK.out k yG
 have IY := hq.1
 have hq3 := hq.2
 have SQ := HPL.out k yG
 have HXP : Hid (aX (lO K) (k + 1) = aX (lO K) k ++ ((if k = 0 then [] else [44, 32]) ++ ((K.kids k).name.data.toList ++ 32 :: fV (K.kids k).num))) := rfl
 have KC : (aX (lO K) k).length + ((if k = 0 then [] else [44, 32] : List UInt8).length + ((K.kids k).name.size + (1 + (fV (K.kids k).num).length))) ≤ (aX (lO K) m).length := by
  have e : (K.kids k).name.data.toList.length = (K.kids k).name.size := rfl
  have e2 : (lO K k).length = (if k = 0 then [] else [44, 32] : List UInt8).length + ((K.kids k).name.data.toList.length + ((fV (K.kids k).num).length + 1)) := by unfold lO; simp only [List.length_append, List.length_cons]
  omega
 have hnk : (K.kids k).name.size ≤ 1099511627776 := by have := rn.out; omega
 have VO := aa (fun W : World => yU (K.kids k).num IY hq3 W)
 have RE : (cr (fV (K.kids k).num)).size = (fV (K.kids k).num).length := rfl
 have rG : (cr (fV (K.kids k).num)).size ≤ 1099511627776 := by have := rn.out; omega
 have HTD : Hid ((cr (fV (K.kids k).num)).data.toList = fV (K.kids k).num) := rfl
 have PN := aa (fun Y W (h : Pst w1.heap.size own (wf.alloc (.cells #[.int .i64 K.kind, .int .i64 K.num, .string K.name, .slice (some ⟨g3, rz, none⟩) (m + 1) wh] 27)) Y W) => MD W h.below)
 rw [← RE] at KC
 clear MD IX hq SQ IY hq3 RE
 generalize K.kids k = PK at *
 rw [← HTD.out] at HXP
 generalize cr (fV PK.num) = ty at *
 obtain ⟨p0, p1, p2, p3⟩ := PN.out _ _ HP.out
 by_cases zL : 0 < k
 ·have Oi : k ≠ 0 := by omega
  go_wp2_with (go_at_call 22; refine (HP.out.add _ (by have := rn.out; simp [Oi] at KC; simp at this ⊢; omega)).mono ?_; rintro e w3 ⟨rfl, hp⟩; obtain ⟨f0, f1, f2, f3⟩ := C6.out _ _ hp; obtain ⟨p0, p1, p2, p3⟩ := PN.out _ _ hp; have HP := aa hp; clear hp)
  go_region_held (fun W => W.cell? ⟨wf.heap.size, 3, none⟩ = some (.slice (some ⟨g3, rz, none⟩) (m + 1) wh) ∧ W.cell? ⟨g3, rz + k * 4 + 2, none⟩ = some (.string PK.name) ∧ W.cell? ⟨g3, rz + k * 4 + 1, none⟩ = some (.int .i64 PK.num)) (go_keep) (first
   |(go_at_call 23; refine (VO.out _).mono ?_; rintro e w4 ⟨rfl, zT⟩; have hp := HP.out.drew.calm zT; obtain ⟨f0, f1, f2, f3⟩ := C6.out _ _ hp; obtain ⟨p0, p1, p2, p3⟩ := PN.out _ _ hp; have HP := aa hp; clear hp zT)
   |(go_at_call 22; refine (HP.out.add _ (by have := rn.out; simp [Oi] at KC; simp  at this ⊢; omega)).mono ?_; rintro e w5 ⟨rfl, hp⟩; obtain ⟨f0, f1, f2, f3⟩ := C6.out _ _ hp; obtain ⟨p0, p1, p2, p3⟩ := PN.out _ _ hp; have HP := aa hp; clear hp))
  all_goals go_wp2
  all_goals exact ⟨⟨k + 1, by omega, by go_num, aa (by rw [HXP.out]; simpa [Oi] using HP.out)⟩, by simp [intOf]; omega⟩
 ·obtain rfl : k = 0 := by omega
  simp only [Nat.zero_mul, Nat.add_zero] at p0 p1 p2 p3 PN
  go_wp2
  go_region_held (fun W => W.cell? ⟨wf.heap.size, 3, none⟩ = some (.slice (some ⟨g3, rz, none⟩) (m + 1) wh) ∧ W.cell? ⟨g3, rz + 2, none⟩ = some (.string PK.name) ∧ W.cell? ⟨g3, rz + 1, none⟩ = some (.int .i64 PK.num)) (go_keep) (first
   |(go_at_call 23; refine (VO.out _).mono ?_; rintro e w4 ⟨rfl, zT⟩; have hp := HP.out.drew.calm zT; obtain ⟨f0, f1, f2, f3⟩ := C6.out _ _ hp; obtain ⟨p0, p1, p2, p3⟩ := PN.out _ _ hp; have HP := aa hp; clear hp zT)
   |(go_at_call 22; refine (HP.out.add _ (by have := rn.out; simp [aX] at KC; simp [aX] at this ⊢; omega)).mono ?_; rintro e w5 ⟨rfl, hp⟩; obtain ⟨f0, f1, f2, f3⟩ := C6.out _ _ hp; obtain ⟨p0, p1, p2, p3⟩ := PN.out _ _ hp; have HP := aa hp; clear hp))
  all_goals go_wp2
  all_goals exact ⟨⟨1, by omega, by go_num, aa (by rw [HXP.out]; simpa [aX] using HP.out)⟩, by simp [intOf]; omega⟩) : G := h
theorem bi1 (h : G := by
 have HQ := aa (HJ.out _ _ HP.out)
 exact ⟨⟨j + 1, by omega, by go_num, aa (by rw [HX.out]; simpa using HQ.out)⟩, by simp [intOf]; omega⟩) : G := h
theorem bi2 (h : G := by
 have HQ := aa (HJ.out _ _ HP.out)
 exact ⟨⟨1, by omega, by go_num, aa (by rw [HX.out]; simpa using HQ.out)⟩, by simp [intOf]; omega⟩) : G := h
theorem bi3 (h : G := by
 have hnb : (K.num != 0) = true := by simp [lY]
 rw [if_neg lY] at HX rn
 have rG : (cr (fV K.num)).size ≤ 1099511627776 := by have := rn.out; simp only [List.length_append] at this; omega
 have HTD : Hid ((cr (fV K.num)).data.toList = fV K.num) := rfl
 rw [← HTD.out] at HX rn
 clear lY RE
 generalize cr (fV K.num) = ty at *
 go_wp2_with (first
  |(go_at_call 22; refine (HP.out.add _ (by have := rn.out; simp at this ⊢; omega)).mono ?_; rintro e w3 ⟨rfl, hp⟩; obtain ⟨f0, f1, f2, f3⟩ := C6.out _ _ hp; obtain ⟨p0, p1, p2, p3⟩ := Wb.out _ _ hp; have HP := aa hp; clear hp)
  |(go_at_call 23; refine (VO.out _).mono ?_; rintro e w4 ⟨rfl, zT⟩; have hp := HP.out.calm zT; obtain ⟨f0, f1, f2, f3⟩ := C6.out _ _ hp; obtain ⟨p0, p1, p2, p3⟩ := Wb.out _ _ hp; have HP := aa hp; clear hp zT)
  |(go_at_call 24; refine (HP.out.block Wg.out 0 ul HFB.out EF.out tR.out (by have := rn.out; simp at this ⊢; omega)).mono ?_; rintro e w3 ⟨rfl, hp⟩; obtain ⟨f0, f1, f2, f3⟩ := C6.out _ _ hp; have HP := aa hp; clear hp))
 first
 |clear k_i3_0
  exact bi1
 |clear k_i3_1
  exact bi2) : G := h
theorem bi4 (h : G := by
 have hnb : (K.num != 0) = false := by simp [lY]
 rw [if_pos lY] at HX rn
 clear lY VO RE
 go_wp2_with (first
  |(go_at_call 22; refine (HP.out.add _ (by have := rn.out; simp at this ⊢; omega)).mono ?_; rintro e w3 ⟨rfl, hp⟩; obtain ⟨f0, f1, f2, f3⟩ := C6.out _ _ hp; obtain ⟨p0, p1, p2, p3⟩ := Wb.out _ _ hp; have HP := aa hp; clear hp)
  |(go_at_call 24; refine (HP.out.block Wg.out 0 ul HFB.out EF.out tR.out (by have := rn.out; simp at this ⊢; omega)).mono ?_; rintro e w3 ⟨rfl, hp⟩; obtain ⟨f0, f1, f2, f3⟩ := C6.out _ _ hp; have HP := aa hp; clear hp))
 first
 |clear k_i4_0
  exact bi1
 |clear k_i4_1
  exact bi2) : G := h
theorem bi5 (h : G := by
 obtain rfl : k = m := by omega
 obtain ⟨ul, zQ, hrl⟩ := HKK.out k (by omega)
 have Wb := aa (fun Y W (h : Pst w1.heap.size own (wf.alloc (.cells #[.int .i64 K.kind, .int .i64 K.num, .string K.name, .slice (some ⟨g3, rz, none⟩) (k + 1) wh] 27)) Y W) => zQ W h.below)
 have EF := aa hrl
 have VO := aa (fun W : World => yU K.num hnu0 hnu3 W)
 have RE : (cr (fV K.num)).size = (fV K.num).length := rfl
 have hlast : k < k + 1 := by omega
 clear zQ hrl
 generalize K.kids k = PL at *
 by_cases lY : K.num = 0
 first
 |clear k_i5_0
  ·have k_i4_0 := kk
   exact bi4
  ·have k_i3_0 := kk
   exact bi3
 |clear k_i5_1
  ·have k_i4_1 := kk
   exact bi4
  ·have k_i3_1 := kk
   exact bi3) : G := h
theorem yn {T : Nd} (h : fR T = true) : (0 ≤ T.num ∧ T.num ≤ 3) ∧ 1 ≤ T.len ∧ (∀ i, i < T.len - 1 → 0 ≤ (T.kids i).num ∧ (T.kids i).num ≤ 3) ∧ ((T.kids (T.len - 1)).kind = 4 ∧ (T.kids (T.len - 1)).sOk = true) := by
 unfold fR at h
 simp only [Bool.and_eq_true, decide_eq_true_eq] at h
 obtain ⟨⟨⟨⟨h1, h2⟩, h3⟩, h4⟩, h5, h6⟩ := h
 refine ⟨h3, h4, fun i hi => ?_, h6⟩
 have := bD.1 h5 i hi
 unfold mb at this
 simp only [Bool.and_eq_true, decide_eq_true_eq] at this
 omega
def lO (T : Nd) (i : Nat) : List UInt8 := (if i = 0 then [] else [44, 32]) ++ ((T.kids i).name.data.toList ++ 32 :: fV (T.kids i).num)
theorem ve (T : Nd) : pH T = [102, 117, 110, 99, 32] ++ (T.name.data.toList ++ (40 :: (aX (lO T) (T.len - 1) ++ ([41, 32] ++
    ((if T.num = 0 then [] else fV T.num ++ [32]) ++ (aV 0 ((aO (T.kids (T.len - 1))).sts 1) ++ [10])))))) := rfl
theorem FV (T : Nd) (w : World) (v : Value) (hi : Nat) (hf : T.Fine) (gW : hi ≤ w.heap.size) (hr : Row 0 hi w T v) (ax : ∀ i, i < T.len → fR (T.kids i) = true) (hb : (ls T).length ≤ 1099511627776) :
  Calls Tryd.prog 9 #[T.val v] w fun e w' => e = .returned (.string (cr (ls T))) ∧ Below w.heap.size w w' := by
 have hn := T.fine_len hf
 obtain ⟨a, cap, rfl, bQ, _⟩ := ar.1 hr
 unfold Nd.val
 obtain ⟨w1, yg⟩ : ∃ w1, w.alloc (.cells #[.int .i64 T.kind, .int .i64 T.num, .string T.name, .slice a T.len cap] 27) = w1 := ⟨_, rfl⟩
 have hZ : w1.heap.size = w.heap.size + 1 := by rw [← yg]; simp
 have hb1 : Below w.heap.size w w1 := by rw [← yg]; exact bA
 have ai := Buf.new w1
 have HP := aa (Pst.start ai)
 obtain ⟨w2, IV⟩ : ∃ w2, w1.alloc (.cells #[.slice none 0 0] 54) = w2 := ⟨_, rfl⟩
 have hb2 : Below w1.heap.size w1 w2 := by rw [← IV]; exact bA
 rw [IV] at ai HP
 have HR := aa (cD (ae (hb1.trans (hb2.mono (by omega))) gW hr) lr (show hi ≤ w1.heap.size by omega))
 have tT : Hid (∀ Y W, Pst w1.heap.size none w2 Y W → W.cell? ⟨w.heap.size, 0, none⟩ = some (.int .i64 T.kind) ∧ W.cell? ⟨w.heap.size, 1, none⟩ = some (.int .i64 T.num) ∧ W.cell? ⟨w.heap.size, 2, none⟩ = some (.string T.name) ∧ W.cell? ⟨w.heap.size, 3, none⟩ = some (.slice a T.len cap)) := by
  intro Y W h
  have e : ∀ o, W.cell? ⟨w.heap.size, o, none⟩ = w1.cell? ⟨w.heap.size, o, none⟩ := fun o => (h.below.cell (p := ⟨w.heap.size, o, none⟩) (by show w.heap.size < _; omega)).trans (hb2.cell (p := ⟨w.heap.size, o, none⟩) (by show w.heap.size < _; omega))
  rw [e, e, e, e, ← yg]
  refine ⟨?_, ?_, ?_, ?_⟩ <;> simp [go_sem]
 have Nc : Hid (Below w.heap.size w w2) := hb1.trans (hb2.mono (by omega))
 have HF := aa hf
 have yA := aa ax
 have HB := aa hb
 have Qv : Hid (ls T = aX (fun i => (if i = 0 then [] else [10]) ++ pH (T.kids i)) T.len) := rfl
 rw [Qv.out] at HB ⊢
 clear Qv hb ax hf hr bQ hb1 hb2 ai
 have HZ1 := aa hZ
 clear hZ
 generalize hF : (fun i => (if i = 0 then [] else [10]) ++ pH (T.kids i)) = F at *
 have EK := aa hF
 have PH := aa (fun i (h : i < T.len) => pO F h)
 clear hF
 generalize T.name = ts at *
 generalize T.num = tn at *
 generalize T.kind = tk at *
 go_enter Tryd.func9, Tryd.ntmps9
 go_wp2
 clear yg IV
 go_loopw [4] (fun i wr => ∃ j : Nat, j ≤ T.len ∧ i = .int .i64 j ∧ Hid (Pst w1.heap.size none w2 (aX F j) wr)) (fun i _ => T.len - (intOf i).toNat)
 case atStart => exact ⟨0, by omega, rfl, HP⟩
 case round =>
  obtain ⟨j, hj, rfl, HP⟩ := hrel
  generalize wr = wf at *
  obtain ⟨b0, b1, b2, b3⟩ := tT.out _ _ HP.out
  by_cases bm : j < T.len
  ·obtain ⟨g, off, ph, hv, hg, bQ, hk⟩ := nt HR.out (by omega)
   obtain ⟨rfl, rfl⟩ : a = some ⟨g, off, none⟩ ∧ cap = ph := by injection hv with e1 e2 e3; exact ⟨e1, e3⟩
   obtain ⟨u, hc, Eh⟩ := hk j bm
   obtain ⟨c0, c1, c2, c3⟩ := hc _ HP.out.below
   have hfk := yA.out j bm
   obtain ⟨⟨hnu0, hnu3⟩, KH, hPK, yG, te⟩ := yn hfk
   have sf := PH.out j bm
   have tC : Hid (F j = (if j = 0 then [] else [10]) ++ pH (T.kids j)) := by rw [← EK.out]; rfl
   have On := Nd.fine_kid HF.out bm
   have hFL := Nd.fine_kid On (i := (T.kids j).len - 1) (by omega)
   obtain ⟨g2, D6, Ih, rfl, _, _, _⟩ := nt Eh (by omega)
   obtain ⟨own, Bu, My⟩ := HP.out.join
   have hmL : (T.kids j).len ≤ 9223372036854775807 := Nd.fine_len On
   have GK := aK Bu (ae HP.out.below lr Eh) (.cells #[.int .i64 (T.kids j).kind, .int .i64 (T.kids j).num, .string (T.kids j).name, .slice (some ⟨g2, D6, none⟩) (T.kids j).len Ih] 27)
   obtain ⟨g3, rz, wh, he3, rK, hcap3, oT⟩ := nt GK (by omega)
   obtain ⟨rfl, rfl, rfl⟩ : g3 = g2 ∧ rz = D6 ∧ wh = Ih := by
    injection he3 with e1 e2 e3
    injection e1 with e1
    injection e1 with e1 e4
    exact ⟨e1.symm, e4.symm, e3.symm⟩
   clear hk bQ hv Eh GK he3
   generalize T.kids j = K at *
   obtain ⟨m, hm⟩ : ∃ m, K.len = m + 1 := ⟨K.len - 1, by omega⟩
   have HKK := aa oT
   have HPK := aa hPK
   have tR := aa (nL yG te)
   have HFB := aa hFL
   have Wg := aa (pS _ (NS (K.kids (K.len - 1))).sts)
   have HX := aa (show aX F (j + 1) = aX F j ++ F j from rfl)
   rw [tC.out, ve] at HX sf
   have HPL := aa (fun i (h : i < K.len - 1) => pO (lO K) h)
   have rn : Hid ((aX F j).length + ((if j = 0 then [] else [10] : List UInt8).length + (5 + (K.name.size + (1 + ((aX (lO K) (K.len - 1)).length + (2 + ((if K.num = 0 then [] else fV K.num ++ [32]).length + ((aV 0 ((aO (K.kids (K.len - 1))).sts 1)).length + 1)))))))) ≤ 1099511627776) := by
    have e : K.name.data.toList.length = K.name.size := rfl
    have := HB.out
    unfold Hid; simp only [List.length_append, List.length_cons, List.length_nil] at sf; omega
   have hkn : K.name.size ≤ 1099511627776 := by have := rn.out; omega
   have HPF := aa (Pst.startB Bu (.cells #[.int .i64 K.kind, .int .i64 K.num, .string K.name, .slice (some ⟨g3, rz, none⟩) K.len wh] 27))
   have C6 := aa (Pst.node Bu (.int .i64 K.kind) (.int .i64 K.num) (.string K.name) (.slice (some ⟨g3, rz, none⟩) K.len wh) 27)
   have HJ := aa (fun Y W (h : Pst w1.heap.size own (wf.alloc (.cells #[.int .i64 K.kind, .int .i64 K.num, .string K.name, .slice (some ⟨g3, rz, none⟩) K.len wh] 27)) Y W) => My Y W _ h)
   simp only [hm, Nat.add_sub_cancel] at *
   clear HP Bu My yG te hPK hFL On oT sf hm hfk tC hc
   have HP := HPF
   clear HPF
   by_cases hj0 : 0 < j
   ·have P7 : j ≠ 0 := by omega
    go_wp2_with (go_at_call 22; refine (HP.out.add _ (by have := rn.out; simp [P7] at this ⊢; omega)).mono ?_; rintro e w3 ⟨rfl, hp⟩; obtain ⟨f0, f1, f2, f3⟩ := C6.out _ _ hp; have HP := aa hp; clear hp)
    go_loopw [7] (fun i W => ∃ k : Nat, k ≤ m ∧ i = .int .i64 k ∧ Hid (Pst w1.heap.size own (wf.alloc (.cells #[.int .i64 K.kind, .int .i64 K.num, .string K.name, .slice (some ⟨g3, rz, none⟩) (m + 1) wh] 27)) (aX F j ++ ((if j = 0 then [] else [10]) ++ ([102, 117, 110, 99, 32] ++ (K.name.data.toList ++ [40]))) ++ aX (lO K) k) W)) (fun i _ => m - (intOf i).toNat)
    case atStart => exact ⟨0, by omega, rfl, aa (by simpa [aX, P7] using HP.out)⟩
    case round =>
     obtain ⟨k, hk, rfl, HP⟩ := hrel
     obtain ⟨f0, f1, f2, f3⟩ := C6.out _ _ HP.out
     by_cases yG : k < m
     ·exact bi0
     ·have k_i5_0 := kk
      exact bi5
   ·obtain rfl : j = 0 := by omega
    simp only [Nat.zero_mul, Nat.add_zero] at c0 c1 c2 c3
    go_wp2_with (go_at_call 22; refine (HP.out.add _ (by have := rn.out; simp at this ⊢; omega)).mono ?_; rintro e w3 ⟨rfl, hp⟩; obtain ⟨f0, f1, f2, f3⟩ := C6.out _ _ hp; have HP := aa hp; clear hp)
    go_loopw [7] (fun i W => ∃ k : Nat, k ≤ m ∧ i = .int .i64 k ∧ Hid (Pst w1.heap.size own (wf.alloc (.cells #[.int .i64 K.kind, .int .i64 K.num, .string K.name, .slice (some ⟨g3, rz, none⟩) (m + 1) wh] 27)) (aX F 0 ++ ((if (0 : Nat) = 0 then [] else [10]) ++ ([102, 117, 110, 99, 32] ++ (K.name.data.toList ++ [40]))) ++ aX (lO K) k) W)) (fun i _ => m - (intOf i).toNat)
    case atStart => exact ⟨0, by omega, rfl, aa (by simpa [aX] using HP.out)⟩
    case round =>
     obtain ⟨k, hk, rfl, HP⟩ := hrel
     obtain ⟨f0, f1, f2, f3⟩ := C6.out _ _ HP.out
     by_cases yG : k < m
     ·exact bi0
     ·have k_i5_1 := kk
      exact bi5
  ·obtain rfl : j = T.len := by omega
   obtain ⟨own, Bu, _⟩ := HP.out.buf
   obtain ⟨sa, sl, sc, k0, hcv⟩ := Ia Bu
   have HBE := aa (Nc.out.trans (HP.out.below.mono (by have := HZ1.out; omega)))
   clear Bu
   go_wp2
   go_ret
   exact ⟨rfl, HBE.out⟩
def CY (T : Nd) : Int := if gg T then 0 else 1
theorem ug {T : Nd} (h : gg T = true) : ∀ i, i < T.len → fR (T.kids i) = true := by
 unfold gg at h
 simp only [Bool.and_eq_true] at h
 exact bD.1 h.2
theorem AR (T : Nd) (w : World) (u : Value) (hi : Nat) (hf : T.Fine) (gW : hi ≤ w.heap.size) (hr : Row 0 hi w T u) (hlen : gg T = true → (ls T).length ≤ 1099511627776) :
  Calls Tryd.prog 4 #[T.val u] w fun e w' => e = .returned (.tuple #[.string (cr (xW T)), .int .i64 (CY T)]) ∧ Below w.heap.size w w' := by
 obtain ⟨a, cap, rfl, _⟩ := ar.1 hr
 have sL : Below w.heap.size w (w.alloc (.cells #[.int .i64 T.kind, .int .i64 T.num, .string T.name, .slice a T.len cap] 27)) := bA
 have SP := aa (fun W (hW : Below w.heap.size w W) => DY T W (.slice a T.len cap) hi hf (by have := hW.size; omega) (ae hW gW hr))
 have SL := aa (fun (h : gg T = true) W (hW : Below w.heap.size w W) => FV T W (.slice a T.len cap) hi hf (by have := hW.size; omega) (ae hW gW hr) (ug h) (hlen h))
 have pw := aa sL
 have HE : Hid (xW T = if gg T then ls T else []) := rfl
 have HC : Hid (CY T = if gg T then 0 else 1) := rfl
 clear hf hr hlen sL
 unfold Nd.val at *
 cases ht : gg T
 ·rw [ht] at SP
  rw [HE.out, HC.out, ht]
  clear SL HE HC
  go_enter Tryd.func4, Tryd.ntmps4
  go_wp2_with (go_at_call 8; refine (SP.out _ (by first | exact Below.refl _ _ | exact pw.out)).mono ?_; rintro e w2 ⟨rfl, hb2⟩; have rn := aa hb2; clear hb2)
  refine bodyPost_ret (v := .tuple #[.string (cr []), .int .i64 1]) (by simp [results, Tryd.results4, go_sem, cr]) rfl ⟨rfl, ?_⟩
  exact pw.out.trans (rn.out.mono (by simp))
 ·rw [ht] at SP
  have SL := aa (SL.out ht)
  rw [HE.out, HC.out, ht]
  simp only [if_true]
  have aF : cr (ls T) = cr (ls T) := rfl
  generalize cr (ls T) = tx at *
  clear HE HC
  go_enter Tryd.func4, Tryd.ntmps4
  go_wp2_with (first
   |(go_at_call 8; refine (SP.out _ pw.out).mono ?_; rintro e w2 ⟨rfl, hb2⟩; have rn := aa (pw.out.trans (hb2.mono (by simp))); have hQ := hb2.size; have q0 := (hb2.cell (p := ⟨w.heap.size, 0, none⟩) (by simp)); have q1 := (hb2.cell (p := ⟨w.heap.size, 1, none⟩) (by simp)); have q2 := (hb2.cell (p := ⟨w.heap.size, 2, none⟩) (by simp)); have q3 := (hb2.cell (p := ⟨w.heap.size, 3, none⟩) (by simp)); clear hb2)
   |(go_at_call 9; refine (SL.out _ rn.out).mono ?_; rintro e w3 ⟨rfl, hb3⟩; have PX := aa (rn.out.trans (hb3.mono (by simp at hQ; omega))); clear hb3))
  refine bodyPost_ret (v := .tuple #[.string tx, .int .i64 0]) (by simp [results, Tryd.results4, go_sem]) rfl ⟨rfl, ?_⟩
  exact PX.out
end Go.Proofs.YtkfbbdhidecefaaDoor
