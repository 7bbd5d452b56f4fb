import Derived.Test.YteaocammohcgoaaGreatDoorQKaBase
import Derived.Deep.LoopGhost
set_option linter.unusedVariables false
set_option maxHeartbeats 16000000
set_option maxRecDepth 100000
namespace Go.Proofs.YteaocammohcgoaaGreatDoor
open Go.RowKit
variable {G : Prop}
theorem bD0 (h : G := by
 have Ei : (K.kind == 4) = true := beq_iff_eq.2 hk
 replace rl : Hid (res = K.sOk) := by have := rl.out; simpa [hk, Hid] using this
 clear hk
 exact bD3) : G := h
theorem bD1 (h : G := by
 cases hx : K.eOk
 all_goals have HX := aa hx
 all_goals clear hx
 all_goals go_wp2_with (go_at_call 103; refine (HCE.out _ _ hi ye.out (by simp; omega) (ah (bA) (by omega) HU.out)).mono ?_; rw [HX.out]; rintro e w1 ⟨rfl, hb1⟩)
 ·exact bD6
 ·exact bD5) : G := h
theorem bD2 (h : G := by
 replace rl : Hid (res = false) := by have := rl.out; simpa [hk, Hid] using this
 clear hk
 exact bD4) : G := h
theorem bD3 (h : G := by
 cases hx : K.sOk
 all_goals have HX := aa hx
 all_goals clear hx
 all_goals go_wp2_with (go_at_call 60; refine (Ju.out _ _ hi ye.out (by simp; omega) (ah (bA) (by omega) HU.out)).mono ?_; rw [HX.out]; rintro e w1 ⟨rfl, hb1⟩)
 ·exact bD6
 ·exact bD5) : G := h
theorem bD4 (h : G := by
 go_wp2
 go_ret
 exact ⟨ao (HN.out (by rw [rl.out])), eJ.trans ((Below.refl _ _).alloc (by omega) _)⟩) : G := h
theorem bD5 (h : G := by
 go_roundg (T.len - (j + 1))
 case rel => exact ⟨j + 1, rfl, by omega, by go_num, HY.out (by rw [rl.out, HX.out]), hb.trans (((Below.refl _ _).alloc (by omega) _).trans (hb1.mono (by simp; omega)))⟩
 case measure => have := zv.out; omega) : G := h
theorem bD6 (h : G := by
 go_ret
 exact ⟨ao (HN.out (by rw [rl.out, HX.out])), eJ.trans (((Below.refl _ _).alloc (by omega) _).trans (hb1.mono (by simp; omega)))⟩) : G := h
theorem bD7 (h : G := by
 have k3 : wr.cell? ⟨w.heap.size, 3, none⟩ = some (.slice a T.len cap) := by
  rw [hb.cell (p := ⟨w.heap.size, 3, none⟩) (by show w.heap.size < _; omega)]; simp
 have eJ := (HB (.cells #[.int .i64 tk, .int .i64 tn, .string ts, .slice a T.len cap] 25)).out.trans (hb.mono (by omega))
 have vI := eJ.size
 have fC : w.heap.size + 1 ≤ wr.heap.size := by have := hb.size; simpa using this
 by_cases bB : j < T.len
 first
 |clear k_0
  ·have Ro : j < bD.size := by have := Jm.out; omega
   have k_0 := kk
   exact bD8
  ·obtain rfl : j = T.len := by omega
   have Ro : ¬ T.len < bD.size := by have := Jm.out; omega
   go_wp2
   go_ret
   exact ⟨ao (by rw [Pd.out]; exact (eE (by rw [← Jm.out]; exact bj.out)).symm), eJ⟩
 |clear k_1
  ·have Ey := mT.out j bB
   have Kw := iK.out j
   by_cases dR : S j + 1 ≤ left
   ·have k_1 := kk
    exact bD8
   ·have Rg : j6 S left j = -1 := by unfold j6; rw [if_neg dR]
    rw [Rg]
    go_wp2
    go_ret
    exact ⟨il (by unfold mb; rw [HZE.out, if_neg (by omega)]), eJ⟩
  ·obtain rfl : j = T.len := by omega
   go_wp2
   go_ret
   exact ⟨il (by unfold mb j6; rw [HZE.out]; split <;> split <;> omega), eJ⟩) : G := h
theorem bD8 (h : G := by
 rcases HR.out with h0 | ⟨g, off, rfl, h1, h2, h3⟩
 ·omega
 obtain ⟨u, e0, e1, e2, e3, hu⟩ := h3 j bB
 have iW : g < w.heap.size := by omega
 rw [← eJ.cell (p := ⟨g, _, none⟩) iW] at e0 e1 e2 e3
 first
 |clear k_0
  obtain ⟨au, cu, rfl, _⟩ := ar.1 hu
  have HU := aa (ah eJ cY hu)
  obtain ⟨ME, vH⟩ := HI.out j bB
  have ye := aa (Nd.fine_kid HF.out bB)
  have HN : Hid (b9 (fun i => (T.kids i).eOk) (fun i => (T.kids i).sOk) T.kk bD[j].toNat j = false → false = aK (fun i => (T.kids i).eOk) (fun i => (T.kids i).sOk) T.kk T.len bD) := fun h => by
   rw [Pd.out]; exact (fZ Ro (by rw [yu Ro]; exact h)).symm
  have HY : Hid (b9 (fun i => (T.kids i).eOk) (fun i => (T.kids i).sOk) T.kk bD[j].toNat j = true → ∀ i, i < j + 1 → b9 (fun i => (T.kids i).eOk) (fun i => (T.kids i).sOk) T.kk (bD.data.toList.getD i 0).toNat i = true) := fun h i hi => by
   by_cases e : i = j
   ·subst e; rw [yu Ro]; exact h
   ·exact bj.out i (by omega)
  have rl : Hid (b9 (fun i => (T.kids i).eOk) (fun i => (T.kids i).sOk) T.kk bD[j].toNat j = if bD[j].toNat = 101 then (T.kids j).eOk else if bD[j].toNat = 99 then decide ((T.kids j).kind = 25) && (T.kids j).eOk else if bD[j].toNat = 98 then decide ((T.kids j).kind = 4) && (T.kids j).sOk else (decide ((T.kids j).kind = 4) || decide ((T.kids j).kind = 10)) && (T.kids j).sOk) := rfl
  generalize b9 (fun i => (T.kids i).eOk) (fun i => (T.kids i).sOk) T.kk bD[j].toNat j = res at *
  unfold iD Nd.val at ME
  unfold eN Nd.val at vH
  have HCE := aa ME
  have Ju := aa vH
  clear h3 ME vH hu bj
  generalize T.kids j = K at *
  have ky : ((bD[j].toNat : Int) == 101) = true ∨ (((bD[j].toNat : Int) == 101) = false ∧ ((bD[j].toNat : Int) == 99) = true) ∨ (((bD[j].toNat : Int) == 101) = false ∧ ((bD[j].toNat : Int) == 99) = false ∧ ((bD[j].toNat : Int) == 98) = true) ∨
    (((bD[j].toNat : Int) == 101) = false ∧ ((bD[j].toNat : Int) == 99) = false ∧ ((bD[j].toNat : Int) == 98) = false) := by
   cases h1 : ((bD[j].toNat : Int) == 101) <;> cases h2 : ((bD[j].toNat : Int) == 99) <;> cases h3 : ((bD[j].toNat : Int) == 98) <;> simp
  rcases ky with q1 | ⟨q1, q2⟩ | ⟨q1, q2, q3⟩ | ⟨q1, q2, q3⟩
  ·have p1 : bD[j].toNat = 101 := by have := beq_iff_eq.1 q1; omega
   replace rl : Hid (res = K.eOk) := by have := rl.out; rw [if_pos p1] at this; exact this
   clear p1
   exact bD1
  ·have p1 : ¬ bD[j].toNat = 101 := by have := beq_eq_false_iff_ne.1 q1; omega
   have p2 : bD[j].toNat = 99 := by have := beq_iff_eq.1 q2; omega
   replace rl : Hid (res = (decide (K.kind = 25) && K.eOk)) := by have := rl.out; rw [if_neg p1, if_pos p2] at this; exact this
   clear p1 p2
   by_cases hk : K.kind = 25
   ·have Ei : (K.kind == 25) = true := beq_iff_eq.2 hk
    replace rl : Hid (res = K.eOk) := by have := rl.out; simpa [hk, Hid] using this
    clear hk
    exact bD1
   ·have Ei : (K.kind == 25) = false := bn hk
    exact bD2
  ·have p1 : ¬ bD[j].toNat = 101 := by have := beq_eq_false_iff_ne.1 q1; omega
   have p2 : ¬ bD[j].toNat = 99 := by have := beq_eq_false_iff_ne.1 q2; omega
   have p3 : bD[j].toNat = 98 := by have := beq_iff_eq.1 q3; omega
   replace rl : Hid (res = (decide (K.kind = 4) && K.sOk)) := by have := rl.out; rw [if_neg p1, if_neg p2, if_pos p3] at this; exact this
   clear p1 p2 p3
   by_cases hk : K.kind = 4
   ·exact bD0
   ·have Ei : (K.kind == 4) = false := bn hk
    exact bD2
  ·have p1 : ¬ bD[j].toNat = 101 := by have := beq_eq_false_iff_ne.1 q1; omega
   have p2 : ¬ bD[j].toNat = 99 := by have := beq_eq_false_iff_ne.1 q2; omega
   have p3 : ¬ bD[j].toNat = 98 := by have := beq_eq_false_iff_ne.1 q3; omega
   replace rl : Hid (res = ((decide (K.kind = 4) || decide (K.kind = 10)) && K.sOk)) := by have := rl.out; rw [if_neg p1, if_neg p2, if_neg p3] at this; exact this
   clear p1 p2 p3
   by_cases hk : K.kind = 4
   ·exact bD0
   ·have Ei : (K.kind == 4) = false := bn hk
    by_cases jR : K.kind = 10
    ·have hkb2 : (K.kind == 10) = true := beq_iff_eq.2 jR
     replace rl : Hid (res = K.sOk) := by have := rl.out; simpa [jR, Hid] using this
     clear hk jR
     exact bD3
    ·have hkb2 : (K.kind == 10) = false := bn jR
     replace rl : Hid (res = false) := by have := rl.out; simpa [hk, jR, Hid] using this
     clear hk jR
     exact bD4
 |clear k_1
  have HU := aa (ah eJ cY hu)
  have HC := HI.out j bB
  have ye := aa (Nd.fine_kid HF.out bB)
  have Rg : j6 S left j = ((left - (S j + 1) : Nat) : Int) := by unfold j6; rw [if_pos dR]
  have HLN : Hid (mb (T.kids j).size (left - (S j + 1)) = j6 S left (j + 1)) := by
   unfold Hid mb j6; rw [Kw]; split <;> split <;> omega
  unfold zn Nd.val at HC
  have qQ := aa HC
  clear h3 HC hu Kw
  generalize T.kids j = K at *
  rw [Rg]
  go_wp2_with (go_at_call 29; refine (qQ.out _ (left - (S j + 1)) _ hi ye.out (by omega) HU.out (by omega)).mono ?_; rw [HLN.out]; rintro e w1 ⟨rfl, hb1⟩)
  exact ⟨⟨j + 1, by omega, by go_num, rfl, hb.trans (hb1.mono fC)⟩, by simp [intOf]; omega⟩) : G := h
def iD (T : Nd) : Prop := ∀ (w : World) (v : Value) (hi : Nat), T.Fine → hi ≤ w.heap.size → Row 0 hi w T v →
 Calls Tryz.prog 103 #[T.val v] w fun e w' => e = .returned (.bool T.eOk) ∧ Below w.heap.size w w'
def eN (T : Nd) : Prop := ∀ (w : World) (v : Value) (hi : Nat), T.Fine → hi ≤ w.heap.size → Row 0 hi w T v →
 Calls Tryz.prog 60 #[T.val v] w fun e w' => e = .returned (.bool T.sOk) ∧ Below w.heap.size w w'
def sx (T : Nd) : Prop := ∀ (w : World) (v : Value) (hi : Nat), T.Fine → hi ≤ w.heap.size → Row 0 hi w T v →
 Calls Tryz.prog 83 #[T.val v] w fun e w' => e = .returned (.bool T.cOk) ∧ Below w.heap.size w w'
def dX (T : Nd) : Prop := ∀ (w : World) (v : Value) (hi : Nat), T.Fine → hi ≤ w.heap.size → Row 0 hi w T v →
 Calls Tryz.prog 113 #[v] w fun e w' => e = .returned (.bool (aE (fun i => (T.kids i).eOk) T.len)) ∧ Below w.heap.size w w'
def e8 (T : Nd) : Prop := ∀ (w : World) (v : Value) (hi : Nat) (bD : ByteArray), T.Fine → hi ≤ w.heap.size → Row 0 hi w T v → bD.size ≤ 10 →
 Calls Tryz.prog 82 #[T.val v, .string bD] w fun e w' => e = .returned (.bool (aK (fun i => (T.kids i).eOk) (fun i => (T.kids i).sOk) T.kk T.len bD)) ∧ Below w.heap.size w w'
theorem EE (T : Nd) (ih : ∀ i, i < T.len → iD (T.kids i)) : dX T := by
 intro w v hi hf cY hr
 have hn := T.fine_len hf
 obtain ⟨a, cap, rfl, b7, hq⟩ := ar.1 hr
 have HI := aa ih
 have HF := aa hf
 have HR := aa hq
 clear hr hf ih hq b7
 go_enter Tryz.func113, Tryz.ntmps113
 go_wp2
 go_loopw [3] (fun i wr => ∃ (j : Nat), j ≤ T.len ∧ i = .int .i64 j ∧ Hid (∀ i, i < j → (T.kids i).eOk = true) ∧ Below w.heap.size w wr) (fun i _ => T.len - (intOf i).toNat)
 case atStart => exact ⟨0, by omega, rfl, (fun i hi => by omega), Below.refl _ _⟩
 case round =>
  obtain ⟨j, hj, rfl, bj, hb⟩ := hrel
  have vI := hb.size
  by_cases bB : j < T.len
  ·rcases HR.out with h0 | ⟨g, off, rfl, h1, h2, h3⟩
   ·omega
   obtain ⟨u, e0, e1, e2, e3, hu⟩ := h3 j bB
   have iW : g < w.heap.size := by omega
   rw [← hb.cell (p := ⟨g, _, none⟩) iW] at e0 e1 e2 e3
   have HU := aa (ah hb cY hu)
   have HC := HI.out j bB
   have ye := aa (Nd.fine_kid HF.out bB)
   have HN : Hid ((T.kids j).eOk = false → aE (fun i => (T.kids i).eOk) T.len = false) := fun h => fZ bB h
   have HY : Hid ((T.kids j).eOk = true → ∀ i, i < j + 1 → (T.kids i).eOk = true) := fun h i hi => by
    by_cases e : i = j
    ·subst e; exact h
    ·exact bj.out i (by omega)
   unfold iD Nd.val at HC
   have qQ := aa HC
   clear h3 HC hu bj
   generalize T.kids j = K at *
   cases hk : K.eOk
   all_goals have HX := aa hk
   all_goals clear hk
   all_goals go_wp2_with (go_at_call 103; refine (qQ.out _ _ hi ye.out (by omega) HU.out).mono ?_; rw [HX.out]; rintro e w1 ⟨rfl, hb1⟩)
   ·go_ret
    exact ⟨ao (HN.out HX.out).symm, hb.trans (hb1.mono vI)⟩
   ·exact ⟨⟨j + 1, by omega, by go_num, HY.out HX.out, hb.trans (hb1.mono vI)⟩, by simp [intOf]; omega⟩
  ·obtain rfl : j = T.len := by omega
   go_wp2
   go_ret
   exact ⟨ao (eE bj.out).symm, hb⟩
theorem yu {bD : ByteArray} {j : Nat} (h : j < bD.size) : bD.data.toList.getD j 0 = bD[j] := by
 have : j < bD.data.toList.length := by simpa using h
 simp only [List.getD, List.getElem?_eq_getElem this, Option.getD_some]; rfl
theorem Hi (T : Nd) (ih : ∀ i, i < T.len → iD (T.kids i) ∧ eN (T.kids i)) : e8 T := by
 intro w v hi bD hf cY hr hs
 have hn := T.fine_len hf
 obtain ⟨a, cap, rfl, b7, hq⟩ := ar.1 hr
 have HI := aa ih
 have HF := aa hf
 have HR := aa hq
 clear hr hf ih hq b7
 unfold Nd.val
 generalize T.kind = tk
 generalize T.num = tn
 generalize T.name = ts
 have HB : ∀ a : Obj, Hid (Below w.heap.size w (w.alloc a)) := fun a => bA
 by_cases hlen : T.len = bD.size
 ·have H5 : ((T.len : Int) != (bD.size : Int)) = false := by simp [hlen]
  have Pd : Hid (aK (fun i => (T.kids i).eOk) (fun i => (T.kids i).sOk) T.kk T.len bD = aE (fun i => b9 (fun i => (T.kids i).eOk) (fun i => (T.kids i).sOk) T.kk (bD.data.toList.getD i 0).toNat i) bD.size) := by
   unfold Hid aK; simp [hlen]
  have Jm := aa hlen
  clear hlen
  have hle : T.len ≤ 10 := by have := Jm.out; omega
  go_enter Tryz.func82, Tryz.ntmps82
  go_wp2
  go_loopg [5] T.len (fun gk i wr => ∃ (j : Nat), gk = T.len - j ∧ j ≤ T.len ∧ i = .int .i64 j ∧ Hid (∀ i, i < j → b9 (fun i => (T.kids i).eOk) (fun i => (T.kids i).sOk) T.kk (bD.data.toList.getD i 0).toNat i = true) ∧ Below (w.heap.size + 1) (w.alloc (.cells #[.int .i64 tk, .int .i64 tn, .string ts, .slice a T.len cap] 25)) wr)
  case atStart => exact ⟨0, by omega, by omega, rfl, (fun i hi => by omega), Below.refl _ _⟩
  case round =>
   obtain ⟨j, rP, hj, rfl, bj, hb⟩ := hrel
   have zv := aa rP
   clear rP
   have k_0 := kk
   exact bD7
 ·have H5 : ((T.len : Int) != (bD.size : Int)) = true := by rw [bne_iff_ne]; omega
  have Pd : Hid (aK (fun i => (T.kids i).eOk) (fun i => (T.kids i).sOk) T.kk T.len bD = false) := by
   unfold Hid aK; simp [hlen]
  go_enter Tryz.func82, Tryz.ntmps82
  go_wp2
  go_ret
  exact ⟨ao Pd.out.symm, (HB _).out⟩
theorem nT {n : Nat} {b : Bool} (h : ((n : Int) == 0) = b) : decide (n = 0) = b := by
 subst h; rw [Bool.eq_iff_iff]; simp
theorem pI {n m : Int} {b : Bool} (h : (n == m) = b) : decide (n = m) = b := by
 subst h; rw [Bool.eq_iff_iff]; simp
theorem kC {n : Int} {b : Bool} (h : (n != 0) = b) : decide (n = 0) = !b := by
 subst h; rw [Bool.eq_iff_iff]; simp
theorem Qe {n : Nat} {b : Bool} (h : decide ((n : Int) < 2) = b) : decide (n < 2) = b := by
 subst h; rw [Bool.eq_iff_iff]; simp; omega
theorem eG {W w1 : World} (hb : Below W.heap.size W w1) : (∀ b o, b < W.heap.size → w1.cell? ⟨b, o, none⟩ = W.cell? ⟨b, o, none⟩) ∧ (∀ b o, b < W.heap.size → w1.frozen? ⟨b, o, none⟩ = W.frozen? ⟨b, o, none⟩) :=
 ⟨fun b o h => hb.cell (p := ⟨b, o, none⟩) h, fun b o h => hb.frozen (p := ⟨b, o, none⟩) h⟩
def zn (T : Nd) : Prop := ∀ (w : World) (left : Nat) (v : Value) (hi : Nat), T.Fine → hi ≤ w.heap.size → Row 0 hi w T v → left ≤ 1048576 →
 Calls Tryz.prog 29 #[T.val v, .int .i64 left] w fun e w' => e = .returned (.int .i64 (mb T.size left)) ∧ Below w.heap.size w w'
def j6 (S : Nat → Nat) (left j : Nat) : Int := if S j + 1 ≤ left then ((left - (S j + 1) : Nat) : Int) else -1
theorem yC (T : Nd) (ih : ∀ i, i < T.len → zn (T.kids i)) : zn T := by
 intro w left v hi hf cY hr hl
 have hn := T.fine_len hf
 have hze := T.size_eq
 obtain ⟨a, cap, rfl, b7, hq⟩ := ar.1 hr
 clear b7
 have HI := aa ih
 have HF := aa hf
 have HR := aa hq
 clear hr hf ih hq
 have aM : ∀ j, j < T.len → aw (fun i => (T.kids i).size) j + (T.kids j).size ≤ aw (fun i => (T.kids i).size) T.len := fun j hj => kQ _ hj
 have cr : ∀ j, aw (fun i => (T.kids i).size) (j + 1) = aw (fun i => (T.kids i).size) j + (T.kids j).size := fun j => rfl
 have h00 : aw (fun i => (T.kids i).size) 0 = 0 := rfl
 generalize aw (fun i => (T.kids i).size) = S at *
 have mT := aa aM
 have iK := aa cr
 have HZE := aa hze
 clear aM cr hze
 unfold Nd.val
 generalize T.kind = tk
 generalize T.num = tn
 generalize T.name = ts
 have HB : ∀ a : Obj, Hid (Below w.heap.size w (w.alloc a)) := fun a => bA
 go_enter Tryz.func29, Tryz.ntmps29
 go_wp2
 go_loopw [1, 5] (fun k i wr => ∃ (j : Nat), j ≤ T.len ∧ i = .int .i64 j ∧ k = .int .i64 (j6 S left j) ∧ Below (w.heap.size + 1) (w.alloc (.cells #[.int .i64 tk, .int .i64 tn, .string ts, .slice a T.len cap] 25)) wr) (fun _ i _ => T.len - (intOf i).toNat)
 case atStart => exact ⟨0, by omega, rfl, by unfold j6; rw [h00]; congr 1; split <;> omega, Below.refl _ _⟩
 case round =>
  obtain ⟨j, hj, rfl, rfl, hb⟩ := hrel
  have k_1 := kk
  exact bD7
theorem uh (T : Nd) : zn T := by
 induction T with
 |nil => exact yC _ fun i hi => absurd hi (Nat.not_lt_zero i)
 |mk k n s len kids ih => exact yC _ fun i _ => ih i
end Go.Proofs.YteaocammohcgoaaGreatDoor
