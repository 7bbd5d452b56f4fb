import Derived.Test.YteaocammohcgoaaGreatDoorVKaBase
import Derived.Deep.LoopGhost
set_option linter.unusedVariables false
set_option maxHeartbeats 16000000
set_option maxRecDepth 100000
namespace Go.Proofs.YteaocammohcgoaaGreatDoor
open Go.RowKit
variable {G : Prop}
theorem bD0 (h : G := by
 have k_D27_0 := kk
 exact XH) : G := h
theorem bD1 (h : G := by
 have k_D24_1 := kk
 exact XK) : G := h
theorem bD2 (h : G := by
 have k_D28_2 := kk
 exact O5) : G := h
theorem bD3 (h : G := by
 have k_D25_1 := kk
 exact XJ) : G := h
theorem bD4 (h : G := by
 have EK : (K.kind == 4) = true := beq_iff_eq.2 hk
 replace rn : Hid (res = K.sOk) := by have := rn.out; simpa [hk, Hid] using this
 clear hk
 exact XQ) : G := h
theorem bD5 (h : G := by
 cases hx : K.eOk
 all_goals have HX := aa hx
 all_goals clear hx
 all_goals go_wp2_with (go_at_call 103; refine (HCE.out _ _ hi yB.out (by simp; omega) (ah (bA) (by omega) HU.out)).mono ?_; rw [HX.out]; rintro e w1 ⟨rfl, hb1⟩)
 ·exact XL
 ·exact XM) : G := h
theorem bD6 (h : G := by
 have HO : Hid (dd T = false) := by unfold Hid; rw [e8.out]; simp; omega
 exact XP) : G := h
theorem bD7 (h : G := by
 have Gq : Hid (pb = false) := by unfold Hid; rw [Cr.out]; simp; omega
 exact XO) : G := h
theorem bD8 (h : G := by
 have k_D42_1 := kk
 exact Xv) : G := h
theorem bD9 (h : G := by
 exact XO) : G := h
theorem XT (h : G := by
 replace rn : Hid (res = false) := by have := rn.out; simpa [hk, Hid] using this
 clear hk
 exact XN) : G := h
theorem bD11 (h : G := by
 cases h1 : (tn != 0)
 all_goals go_enter Tryz.func60, Tryz.ntmps60
 all_goals go_wp2
 all_goals go_ret
 all_goals exact ⟨aw (by rw [e8.out]; simp only [ao, he]; rfl), (HB _).out⟩) : G := h
theorem O8 (h : G := by
 go_roundg (T.len - (j + 1))
 case rel => exact ⟨j + 1, rfl, by omega, by go_num, HY.out HX.out, hb.trans (hb1.mono fP)⟩
 case measure => have := zN.out; omega) : G := h
theorem XS (h : G := by
 obtain rfl : j = T.len := by omega
 go_wp2
 go_ret
 exact ⟨aw (by rw [e8.out, eo bl.out]; simp only [ao, he, kH h1]; rfl), fC⟩) : G := h
theorem XR (h : G := by
 go_enter Tryz.func60, Tryz.ntmps60
 go_wp2
 go_ret
 exact ⟨aw (by rw [e8.out]; simp only [ao, he, kH h1]; rfl), (HB _).out⟩) : G := h
theorem FB (h : G := by
 rw [hb.cell (p := ⟨w.heap.size, 3, none⟩) (by show w.heap.size < _; omega)]; simp) : G := h
theorem O7 (h : G := by
 go_ret
 exact ⟨aw (HN.out HX.out), fC.trans (hb1.mono Bp)⟩) : G := h
theorem XQ (h : G := by
 cases hx : K.sOk
 all_goals have HX := aa hx
 all_goals clear hx
 all_goals go_wp2_with (go_at_call 60; refine (Kd.out _ _ hi yB.out (by simp; omega) (ah (bA) (by omega) HU.out)).mono ?_; rw [HX.out]; rintro e w1 ⟨rfl, hb1⟩)
 ·exact XL
 ·exact XM) : G := h
theorem XP (h : G := by
 have k_D41_1 := kk
 exact Xw) : G := h
theorem XO (h : G := by
 have k_D46_0 := kk
 exact Xr) : G := h
theorem XN (h : G := by
 go_wp2
 go_ret
 exact ⟨aw (HN.out (by rw [rn.out])), fC.trans ((Below.refl _ _).alloc (by omega) _)⟩) : G := h
theorem XM (h : G := by
 go_roundg (T.len - (j + 1))
 case rel => exact ⟨j + 1, rfl, by omega, by go_num, HY.out (by rw [rn.out, HX.out]), hb.trans (((Below.refl _ _).alloc (by omega) _).trans (hb1.mono (by simp; omega)))⟩
 case measure => have := zN.out; omega) : G := h
theorem XL (h : G := by
 go_ret
 exact ⟨aw (HN.out (by rw [rn.out, HX.out])), fC.trans (((Below.refl _ _).alloc (by omega) _).trans (hb1.mono (by simp; omega)))⟩) : G := h
theorem O6 (h : G := by
 go_ret
 exact ⟨aw HO.out.symm, (HB _).out.trans (hb1.mono (by simp))⟩) : G := h
theorem XK (h : G := by
 have k_D32_0 := kk
 exact O4) : G := h
theorem XJ (h : G := by
 have k_D32_1 := kk
 exact O4) : G := h
theorem XI (h : G := by
 have k_D36_1 := kk
 exact XA) : G := h
theorem XH (h : G := by
 have k_D33_0 := kk
 exact XD) : G := h
theorem O5 (h : G := by
 have k_D32_2 := kk
 exact O4) : G := h
theorem XG (h : G := by
 have k_D34_0 := kk
 exact XC) : G := h
theorem XF (h : G := by
 have k_D33_1 := kk
 exact XD) : G := h
theorem XE (h : G := by
 have k_D34_1 := kk
 exact XC) : G := h
theorem O4 (h : G := by
 have k_D35_0 := kk
 exact XB) : G := h
theorem XD (h : G := by
 have k_D35_1 := kk
 exact XB) : G := h
theorem XC (h : G := by
 have k_D36_0 := kk
 exact XA) : G := h
theorem XB (h : G := by
 have k_D37_0 := kk
 exact Xz) : G := h
theorem XA (h : G := by
 have k_D37_1 := kk
 exact Xz) : G := h
theorem Xz (h : G := by
 have HE := aa (fun W (hb : Below w.heap.size w W) => hE W v hi hf (by have := hb.size; omega) (ah hb dF hr))
 have k_D48_1 := kk
 exact OY) : G := h
theorem Xy (h : G := by
 have k3 : wr.cell? ⟨w.heap.size, 3, none⟩ = some (.slice a T.len cap) := by
  exact FB
 have fC := (HB (.cells #[.int .i64 tk, .int .i64 tn, .string ts, .slice a T.len cap] 25)).out.trans (hb.mono (by omega))
 have k_D49_0 := kk
 exact JR) : G := h
theorem Xx (h : G := by
 have HI := aa ih
 have HF := aa hf
 have HR := aa hq
 have k_D51_0 := kk
 exact OX) : G := h
theorem OZ (h : G := by
 rcases HR.out with h0 | ⟨g, off, rfl, g1, g2, g3⟩
 ·omega
 obtain ⟨u, e0, e1, e2, e3, hu⟩ := g3 j bN
 have iM : g < w.heap.size := by omega
 rw [← fC.cell (p := ⟨g, _, none⟩) iM] at e0 e1 e2 e3
 have HU := aa (ah fC dF hu)
 have HC := HI.out j bN
 have yB := aa (Nd.fine_kid HF.out bN)
 first
 |clear k_D40_0
  have HN : Hid (dd (T.kids j) = false → false = dv T) := fun h => by rw [HO.out, gm bN h]
  have HY : Hid (dd (T.kids j) = true → ∀ i, i < j + 1 → dd (T.kids i) = true) := fun h i hi => by
   by_cases e : i = j
   ·subst e; exact h
   ·exact bl.out i (by omega)
  unfold FZ Nd.val at HC
  have qR := aa HC
  clear g3 HC hu bl
  generalize T.kids j = K at *
  cases hx : dd K
  all_goals have HX := aa hx
  all_goals clear hx
  all_goals go_wp2_with (go_at_call 30; refine (qR.out _ _ hi yB.out (by omega) HU.out).mono ?_; rw [HX.out]; rintro e w1 ⟨rfl, hb1⟩)
  ·exact O7
  ·exact O8
 |clear k_D40_1
  have HN : Hid ((T.kids j).sOk = false → false = T.sOk) := fun h => by rw [e8.out, gm bN h]; simp
  have HY : Hid ((T.kids j).sOk = true → ∀ i, i < j + 1 → (T.kids i).sOk = true) := fun h i hi => by
   by_cases e : i = j
   ·subst e; exact h
   ·exact bl.out i (by omega)
  unfold eK Nd.val at HC
  have qR := aa HC
  clear g3 HC hu bl
  generalize T.kids j = K at *
  have k_D45_1 := kk
  exact Xs
 |clear k_D40_2
  have HN : Hid ((T.kids j).cOk = false → false = T.sOk) := fun h => by rw [e8.out, gm bN h]; simp
  have HY : Hid ((T.kids j).cOk = true → ∀ i, i < j + 1 → (T.kids i).cOk = true) := fun h i hi => by
   by_cases e : i = j
   ·subst e; exact h
   ·exact bl.out i (by omega)
  unfold sG Nd.val at HC
  have qR := aa HC
  clear g3 HC hu bl
  generalize T.kids j = K at *
  cases hx : K.cOk
  all_goals have HX := aa hx
  all_goals clear hx
  all_goals go_wp2_with (go_at_call 83; refine (qR.out _ _ hi yB.out (by omega) HU.out).mono ?_; rw [HX.out]; rintro e w1 ⟨rfl, hb1⟩)
  ·exact O7
  ·exact O8) : G := h
theorem Xw (h : G := by
 go_enter Tryz.func30, Tryz.ntmps30
 go_wp2_with (go_at_call 59; refine (gW _ _ HS.out).mono ?_; rw [dn]; rintro e w1 ⟨rfl, hb1⟩; have eT := hb1.size; simp only [World.size_alloc] at eT; obtain ⟨eM, qN⟩ := eu hb1)
 first
 |clear k_D41_0
  have xO := hb1
  simp only [World.size_alloc] at xO
  clear hb1 eM qN eT dn h0 h3
  go_loopg [4] T.len (fun gk i wr => ∃ (j : Nat), gk = T.len - j ∧ j ≤ T.len - 1 ∧ i = .int .i64 j ∧ Hid (∀ i, i < j → fK (T.kids i) = true) ∧ Below (w.heap.size + 1) (w.alloc (.cells #[.int .i64 2, .int .i64 tn, .string ts, .slice a T.len cap] 25)) wr)
  case atStart => exact ⟨0, by omega, by omega, rfl, (fun i hi => by omega), xO⟩
  case round =>
   obtain ⟨j, rX, hj, rfl, bl, hb⟩ := hrel
   have zN := aa rX
   clear rX xO
   have k3 : wr.cell? ⟨w.heap.size, 3, none⟩ = some (.slice a T.len cap) := by
    exact FB
   have fC := (HB (.cells #[.int .i64 2, .int .i64 tn, .string ts, .slice a T.len cap] 25)).out.trans (hb.mono (by omega))
   have Bp := fC.size
   have fP : w.heap.size + 1 ≤ wr.heap.size := by have := hb.size; simpa using this
   have tT : j < T.len := by omega
   rcases HR.out with h0 | ⟨g, off, rfl, g1, g2, g3⟩
   ·omega
   obtain ⟨u, e0, e1, e2, e3, hu⟩ := g3 j tT
   have iM : g < w.heap.size := by omega
   rw [← fC.cell (p := ⟨g, _, none⟩) iM] at e0 e1 e2 e3
   by_cases bN : j < T.len - 1
   ·have hlt' : (j : Int) < (T.len : Int) - 1 := by omega
    obtain ⟨au, cu, rfl, _⟩ := aH.1 hu
    have K2 := Nd.fine_name (Nd.fine_kid HF.out tT)
    have HSJ : Hid ((T.kids j).name.size ≤ maxLen) := by unfold Hid maxLen; exact K2
    have HN : Hid (fK (T.kids j) = false → false = dd T) := fun h => by rw [HO.out, gm bN h]; simp
    have HY : Hid (fK (T.kids j) = true → ∀ i, i < j + 1 → fK (T.kids i) = true) := fun h i hi => by
     by_cases e : i = j
     ·subst e; exact h
     ·exact bl.out i (by omega)
    have Cr : Hid (fK (T.kids j) = (decide ((T.kids j).kind = 3) && aR (T.kids j).name && (decide (1 ≤ (T.kids j).num) && decide ((T.kids j).num ≤ 3)) && decide ((T.kids j).len = 0))) := rfl
    have hbN : ∀ o : Obj, Hid (Below wr.heap.size wr (wr.alloc o)) := fun o => bA
    clear g3 hu bl K2
    generalize fK (T.kids j) = pb at *
    generalize T.kids j = P at *
    generalize P.kind = pk at *
    generalize P.num = pn at *
    generalize P.name = ps at *
    by_cases hk : pk = 3
    case neg =>
     have m1 : (pk != 3) = true := by rw [bne_iff_ne]; exact hk
     have Gq : Hid (pb = false) := by unfold Hid; rw [Cr.out]; simp [hk]
     clear hk
     go_wp2
     go_ret
     exact ⟨aw (HN.out Gq.out), fC.trans ((hbN _).out.mono Bp)⟩
    subst hk
    cases dn : aR ps
    ·have Gq : Hid (pb = false) := by unfold Hid; rw [Cr.out, dn]; simp
     exact bD9
    by_cases h0 : pn < 1
    ·exact bD7
    by_cases h3 : 3 < pn
    ·exact bD7
    cases KW : ((P.len : Int) != 0)
    ·have Gq : Hid (pb = true) := by
      unfold Hid; rw [Cr.out, dn]
      have q1 : 1 ≤ pn := by omega
      have q2 : pn ≤ 3 := by omega
      have q3 : P.len = 0 := by have : (P.len : Int) = 0 := (by simpa using KW); omega
      simp [q1, q2, q3]
     have k_D46_1 := kk
     exact Xr
    ·have Gq : Hid (pb = false) := by
      unfold Hid; rw [Cr.out]
      have q3 : ¬ P.len = 0 := by
       intro h; rw [h] at KW; simp at KW
      simp [q3]
     exact bD9
   ·obtain rfl : j = T.len - 1 := by omega
    have kA : ((T.len - 1 : Nat) : Int) = (T.len : Int) - 1 := by omega
    have zO : Hid (aG (fun i => fK (T.kids i)) (T.len - 1) = true) := eo bl.out
    have HU := aa (ah fC dF hu)
    have HC := HI.out (T.len - 1) tT
    have yB := aa (Nd.fine_kid HF.out tT)
    have hoff : off + (T.len - 1) * 4 = off + (T.len - 1) * 4 := rfl
    unfold eK Nd.val at HC
    have qR := aa HC
    have Qz : Hid (dd T = (decide ((T.kids (T.len - 1)).kind = 4) && (T.kids (T.len - 1)).sOk)) := by unfold Hid; rw [HO.out, zO.out, Bool.true_and]
    clear g3 hu bl HC HO zO hoff
    generalize T.kids (T.len - 1) = K at *
    rw [kA] at *
    by_cases hk : K.kind = 4
    ·have EK : (K.kind == 4) = true := beq_iff_eq.2 hk
     replace Qz : Hid (dd T = K.sOk) := by have := Qz.out; simpa [hk, Hid] using this
     clear hk
     have k_D45_0 := kk
     exact Xs
    ·have EK : (K.kind == 4) = false := bn hk
     replace Qz : Hid (dd T = false) := by have := Qz.out; simpa [hk, Hid] using this
     clear hk
     go_wp2
     go_ret
     exact ⟨aw Qz.out.symm, fC⟩
 |clear k_D41_1
  exact O6) : G := h
theorem Xv (h : G := by
 go_enter Tryz.func17, Tryz.ntmps17
 go_wp2_with (go_at_call 29; refine (HL.out _ (HB _).out).mono ?_; rw [hl]; rintro e w1 ⟨rfl, hb1⟩; have eT := hb1.size; simp only [World.size_alloc] at eT; obtain ⟨eM, qN⟩ := eu hb1)
 first
 |clear k_D42_0
  have xO := hb1
  simp only [World.size_alloc] at xO
  clear hb1 eM qN eT he hl HL
  go_loopg [3] T.len (fun gk i wr => ∃ (j : Nat), gk = T.len - j ∧ j ≤ T.len ∧ i = .int .i64 j ∧ Hid (∀ i, i < j → dd (T.kids i) = true) ∧ Below (w.heap.size + 1) (w.alloc (.cells #[.int .i64 1, .int .i64 0, .string ts, .slice a T.len cap] 25)) wr)
  case atStart => exact ⟨0, by omega, by omega, rfl, (fun i hi => by omega), xO⟩
  case round =>
   obtain ⟨j, rX, hj, rfl, bl, hb⟩ := hrel
   have zN := aa rX
   clear rX xO
   have k3 : wr.cell? ⟨w.heap.size, 3, none⟩ = some (.slice a T.len cap) := by
    exact FB
   have fC := (HB (.cells #[.int .i64 1, .int .i64 0, .string ts, .slice a T.len cap] 25)).out.trans (hb.mono (by omega))
   have k_D49_3 := kk
   exact JR
 |clear k_D42_1
  exact O6) : G := h
theorem Xu (h : G := by
 rcases HR.out with h0 | ⟨g, off, rfl, h1, h2, h3⟩
 ·omega
 obtain ⟨u, e0, e1, e2, e3, hu⟩ := h3 j bN
 have iM : g < w.heap.size := by omega
 rw [← fC.cell (p := ⟨g, _, none⟩) iM] at e0 e1 e2 e3
 first
 |clear k_D43_0
  obtain ⟨au, cu, rfl, _⟩ := aH.1 hu
  have HU := aa (ah fC dF hu)
  obtain ⟨NA, wg⟩ := HI.out j bN
  have yB := aa (Nd.fine_kid HF.out bN)
  have HN : Hid (cq (fun i => (T.kids i).eOk) (fun i => (T.kids i).sOk) T.kk b5[j].toNat j = false → false = aK (fun i => (T.kids i).eOk) (fun i => (T.kids i).sOk) T.kk T.len b5) := fun h => by
   rw [QG.out]; exact (gm Tk (by rw [yO Tk]; exact h)).symm
  have HY : Hid (cq (fun i => (T.kids i).eOk) (fun i => (T.kids i).sOk) T.kk b5[j].toNat j = true → ∀ i, i < j + 1 → cq (fun i => (T.kids i).eOk) (fun i => (T.kids i).sOk) T.kk (b5.data.toList.getD i 0).toNat i = true) := fun h i hi => by
   by_cases e : i = j
   ·subst e; rw [yO Tk]; exact h
   ·exact bl.out i (by omega)
  have rn : Hid (cq (fun i => (T.kids i).eOk) (fun i => (T.kids i).sOk) T.kk b5[j].toNat j = if b5[j].toNat = 101 then (T.kids j).eOk else if b5[j].toNat = 99 then decide ((T.kids j).kind = 25) && (T.kids j).eOk else if b5[j].toNat = 98 then decide ((T.kids j).kind = 4) && (T.kids j).sOk else (decide ((T.kids j).kind = 4) || decide ((T.kids j).kind = 10)) && (T.kids j).sOk) := rfl
  generalize cq (fun i => (T.kids i).eOk) (fun i => (T.kids i).sOk) T.kk b5[j].toNat j = res at *
  unfold iK Nd.val at NA
  unfold eK Nd.val at wg
  have HCE := aa NA
  have Kd := aa wg
  clear h3 NA wg hu bl
  generalize T.kids j = K at *
  have kB : ((b5[j].toNat : Int) == 101) = true ∨ (((b5[j].toNat : Int) == 101) = false ∧ ((b5[j].toNat : Int) == 99) = true) ∨ (((b5[j].toNat : Int) == 101) = false ∧ ((b5[j].toNat : Int) == 99) = false ∧ ((b5[j].toNat : Int) == 98) = true) ∨
    (((b5[j].toNat : Int) == 101) = false ∧ ((b5[j].toNat : Int) == 99) = false ∧ ((b5[j].toNat : Int) == 98) = false) := by
   cases h1 : ((b5[j].toNat : Int) == 101) <;> cases h2 : ((b5[j].toNat : Int) == 99) <;> cases h3 : ((b5[j].toNat : Int) == 98) <;> simp
  rcases kB with q1 | ⟨q1, q2⟩ | ⟨q1, q2, q3⟩ | ⟨q1, q2, q3⟩
  ·have p1 : b5[j].toNat = 101 := by have := beq_iff_eq.1 q1; omega
   replace rn : Hid (res = K.eOk) := by have := rn.out; rw [if_pos p1] at this; exact this
   clear p1
   exact bD5
  ·have p1 : ¬ b5[j].toNat = 101 := by have := beq_eq_false_iff_ne.1 q1; omega
   have p2 : b5[j].toNat = 99 := by have := beq_iff_eq.1 q2; omega
   replace rn : Hid (res = (decide (K.kind = 25) && K.eOk)) := by have := rn.out; rw [if_neg p1, if_pos p2] at this; exact this
   clear p1 p2
   by_cases hk : K.kind = 25
   ·have EK : (K.kind == 25) = true := beq_iff_eq.2 hk
    replace rn : Hid (res = K.eOk) := by have := rn.out; simpa [hk, Hid] using this
    clear hk
    exact bD5
   ·have EK : (K.kind == 25) = false := bn hk
    exact XT
  ·have p1 : ¬ b5[j].toNat = 101 := by have := beq_eq_false_iff_ne.1 q1; omega
   have p2 : ¬ b5[j].toNat = 99 := by have := beq_eq_false_iff_ne.1 q2; omega
   have p3 : b5[j].toNat = 98 := by have := beq_iff_eq.1 q3; omega
   replace rn : Hid (res = (decide (K.kind = 4) && K.sOk)) := by have := rn.out; rw [if_neg p1, if_neg p2, if_pos p3] at this; exact this
   clear p1 p2 p3
   by_cases hk : K.kind = 4
   ·exact bD4
   ·have EK : (K.kind == 4) = false := bn hk
    exact XT
  ·have p1 : ¬ b5[j].toNat = 101 := by have := beq_eq_false_iff_ne.1 q1; omega
   have p2 : ¬ b5[j].toNat = 99 := by have := beq_eq_false_iff_ne.1 q2; omega
   have p3 : ¬ b5[j].toNat = 98 := by have := beq_eq_false_iff_ne.1 q3; omega
   replace rn : Hid (res = ((decide (K.kind = 4) || decide (K.kind = 10)) && K.sOk)) := by have := rn.out; rw [if_neg p1, if_neg p2, if_neg p3] at this; exact this
   clear p1 p2 p3
   by_cases hk : K.kind = 4
   ·exact bD4
   ·have EK : (K.kind == 4) = false := bn hk
    by_cases jL : K.kind = 10
    ·have hkb2 : (K.kind == 10) = true := beq_iff_eq.2 jL
     replace rn : Hid (res = K.sOk) := by have := rn.out; simpa [jL, Hid] using this
     clear hk jL
     exact XQ
    ·have hkb2 : (K.kind == 10) = false := bn jL
     replace rn : Hid (res = false) := by have := rn.out; simpa [hk, jL, Hid] using this
     clear hk jL
     exact XN
 |clear k_D43_1
  have HU := aa (ah fC dF hu)
  have HC := HI.out j bN
  have yB := aa (Nd.fine_kid HF.out bN)
  have Ta : kh S left j = ((left - (S j + 1) : Nat) : Int) := by unfold kh; rw [if_pos dG]
  have HLN : Hid (mm (T.kids j).size (left - (S j + 1)) = kh S left (j + 1)) := by
   unfold Hid mm kh; rw [Ln]; split <;> split <;> omega
  unfold zL Nd.val at HC
  have qR := aa HC
  clear h3 HC hu Ln
  generalize T.kids j = K at *
  rw [Ta]
  go_wp2_with (go_at_call 29; refine (qR.out _ (left - (S j + 1)) _ hi yB.out (by omega) HU.out (by omega)).mono ?_; rw [HLN.out]; rintro e w1 ⟨rfl, hb1⟩)
  exact ⟨⟨j + 1, by omega, by go_num, rfl, hb.trans (hb1.mono fP)⟩, by simp [intOf]; omega⟩) : G := h
theorem Xt (h : G := by
 unfold Nd.val at *
 subst hv
 clear hf hr hq dE
 generalize T.kind = tk at *
 generalize T.num = tn at *
 generalize T.name = ts at *
 cases he : ts.toList.isEmpty
 all_goals cases h1 : (tn != 0)
 first
 |clear k_D44_0
  all_goals go_enter Tryz.func60, Tryz.ntmps60
  all_goals go_wp2
  all_goals go_ret
  all_goals exact ⟨aw e8.out.symm, (HB _).out⟩
 |clear k_D44_1
  all_goals go_enter Tryz.func103, Tryz.ntmps103
  all_goals go_wp2
  all_goals go_ret
  all_goals exact ⟨aw e8.out.symm, (HB _).out⟩) : G := h
theorem Xs (h : G := by
 cases hx : K.sOk
 all_goals have HX := aa hx
 all_goals clear hx
 all_goals go_wp2_with (go_at_call 60; refine (qR.out _ _ hi yB.out (by omega) HU.out).mono ?_; rw [HX.out]; rintro e w1 ⟨rfl, hb1⟩)
 first
 |clear k_D45_0
  all_goals go_ret
  all_goals exact ⟨aw (by rw [Qz.out, HX.out]), fC.trans (hb1.mono Bp)⟩
 |clear k_D45_1
  ·exact O7
  ·exact O8) : G := h
theorem Xr (h : G := by
 go_wp2_with (go_at_call 59; refine (gW _ _ HSJ.out).mono ?_; rw [dn]; rintro e w1 ⟨rfl, hb1⟩; have eT := hb1.size; simp only [World.size_alloc] at eT; obtain ⟨eM, qN⟩ := eu hb1)
 first
 |clear k_D46_0
  go_ret
  exact ⟨aw (HN.out Gq.out), fC.trans ((((hbN _).out.trans (hb1.mono (by simp)))).mono Bp)⟩
 |clear k_D46_1
  go_roundg (T.len - (j + 1))
  case rel => exact ⟨j + 1, rfl, by omega, by go_num, HY.out Gq.out, hb.trans ((((hbN _).out.trans (hb1.mono (by simp)))).mono fP)⟩
  case measure => have := zN.out; omega) : G := h
theorem Xq (h : G := by
 intro w v hi hf dF hr
 have hn := T.fine_len hf
 have hs := T.fine_name hf
 obtain ⟨a, cap, hv, cr, hq⟩ := aH.1 hr
 have HB : ∀ o : Obj, Hid (Below w.heap.size w (w.alloc o)) := fun o => bA
 first
 |clear k_D47_0
  have k_D48_2 := kk
  exact OY
 |clear k_D47_1
  have HS : Hid (T.name.size ≤ maxLen) := by unfold Hid maxLen; exact hs
  have e8 : Hid (dd T = (decide (T.kind = 2) && aR T.name && (decide (0 ≤ T.num) && decide (T.num ≤ 3)) && decide (1 ≤ T.len) && (aG (fun i => fK (T.kids i)) (T.len - 1) && (decide ((T.kids (T.len - 1)).kind = 4) && (T.kids (T.len - 1)).sOk)))) := rfl
  have HI := aa ih
  have HF := aa hf
  have HR := aa hq
  unfold Nd.val at *
  subst hv
  clear hf hr hs hq cr ih
  generalize T.kind = tk at *
  generalize T.num = tn at *
  generalize T.name = ts at *
  by_cases hk : tk = 2
  case neg =>
   have m1 : (tk != 2) = true := by rw [bne_iff_ne]; exact hk
   have HO : Hid (dd T = false) := by unfold Hid; rw [e8.out]; simp [hk]
   clear hk
   go_enter Tryz.func30, Tryz.ntmps30
   go_wp2
   go_ret
   exact ⟨aw HO.out.symm, (HB _).out⟩
  subst hk
  cases dn : aR ts
  ·have HO : Hid (dd T = false) := by unfold Hid; rw [e8.out, dn]; simp
   exact XP
  by_cases h0 : tn < 0
  ·exact bD6
  by_cases h3 : 3 < tn
  ·exact bD6
  by_cases hl : T.len < 1
  ·exact bD6
  have HO : Hid (dd T = (aG (fun i => fK (T.kids i)) (T.len - 1) && (decide ((T.kids (T.len - 1)).kind = 4) && (T.kids (T.len - 1)).sOk))) := by
   unfold Hid; rw [e8.out, dn]
   have q1 : 0 ≤ tn := by omega
   have q2 : tn ≤ 3 := by omega
   have q3 : 1 ≤ T.len := by omega
   simp [q1, q2, q3]
  clear e8
  have wb : (1 : Int) ≤ (T.len : Int) := by omega
  have k_D41_0 := kk
  exact Xw) : G := h
theorem OY (h : G := by
 have HK := aa (fun W (hb : Below w.heap.size w W) b5 => hK W v hi b5 hf (by have := hb.size; omega) (ah hb dF hr))
 first
 |clear k_D48_0
  have HQ := aa hq
  have k_D51_1 := kk
  exact OX
 |clear k_D48_1
  have HQ := aa hq
  have HS : Hid (T.name.size ≤ maxLen) := by unfold Hid maxLen; exact hs
  have k_D51_2 := kk
  exact OX
 |clear k_D48_2
  have HS : Hid (T.name.size ≤ maxLen) := by unfold Hid maxLen; exact hs
  by_cases hk : T.kind = 16
  ·have e8 : Hid (T.cOk = iH 16 T.num T.name T.len (fun i => (T.kids i).eOk) (fun i => (T.kids i).sOk) T.kk) := by have := mR T; rw [hk] at this; exact this
   unfold Nd.val at HK ⊢
   rw [hk] at HK ⊢
   subst hv
   clear hf hr hK hs hk hq cr
   generalize T.num = tn at *
   generalize T.name = ts at *
   by_cases c0 : tn = 0
   ·subst c0
    cases he : ts.toList.isEmpty
    all_goals cases ia : aK (fun i => (T.kids i).eOk) (fun i => (T.kids i).sOk) T.kk T.len ⟨#[98]⟩
    all_goals go_enter Tryz.func83, Tryz.ntmps83
    all_goals go_wp2_with ((go_at_call 82; refine (HK.out _ xR ⟨#[98]⟩ (by decide)).mono ?_; rw [ia]; rintro e w2 ⟨rfl, ba⟩; have ed := ba.size; (try simp only [World.size_alloc] at ed); obtain ⟨iG, tp⟩ := eu ba))
    all_goals go_ret
    all_goals refine ⟨aw (by rw [e8.out]; unfold iH; simp only [ao, he, ia]; rfl), ?_⟩
    all_goals first | exact (HB _).out | exact (HB _).out.trans (ba.mono (by simp))
   by_cases c1 : tn = 1
   ·subst c1
    cases he : ts.toList.isEmpty
    all_goals cases dn : aR ts
    all_goals cases ia : aK (fun i => (T.kids i).eOk) (fun i => (T.kids i).sOk) T.kk T.len ⟨#[101, 98]⟩
    all_goals go_enter Tryz.func83, Tryz.ntmps83
    all_goals go_wp2_with (first | (go_at_call 59; refine (gW _ _ HS.out).mono ?_; rw [dn]; rintro e w1 ⟨rfl, hb1⟩; have eT := hb1.size; simp only [World.size_alloc] at eT; obtain ⟨eM, qN⟩ := eu hb1) | (go_at_call 82; refine (HK.out _ xR ⟨#[101, 98]⟩ (by decide)).mono ?_; rw [ia]; rintro e w2 ⟨rfl, ba⟩; have ed := ba.size; (try simp only [World.size_alloc] at ed); obtain ⟨iG, tp⟩ := eu ba))
    all_goals go_ret
    all_goals refine ⟨aw (by rw [e8.out]; unfold iH; simp only [ao, he, dn, ia]; rfl), ?_⟩
    all_goals first | exact (HB _).out | exact (HB _).out.trans (hb1.mono (by simp)) | exact (HB _).out.trans (ba.mono (by simp)) | exact ((HB _).out.trans (hb1.mono (by simp))).trans (ba.mono (by omega))
   by_cases c2 : tn = 2
   ·subst c2
    cases he : ts.toList.isEmpty
    all_goals cases ia : aK (fun i => (T.kids i).eOk) (fun i => (T.kids i).sOk) T.kk T.len ⟨#[101, 101, 98]⟩
    all_goals go_enter Tryz.func83, Tryz.ntmps83
    all_goals go_wp2_with ((go_at_call 82; refine (HK.out _ xR ⟨#[101, 101, 98]⟩ (by decide)).mono ?_; rw [ia]; rintro e w2 ⟨rfl, ba⟩; have ed := ba.size; (try simp only [World.size_alloc] at ed); obtain ⟨iG, tp⟩ := eu ba))
    all_goals go_ret
    all_goals refine ⟨aw (by rw [e8.out]; unfold iH; simp only [ao, he, ia]; rfl), ?_⟩
    all_goals first | exact (HB _).out | exact (HB _).out.trans (ba.mono (by simp))
   ·have HF : Hid (T.cOk = false) := by unfold Hid; rw [e8.out]; unfold iH; rw [if_pos rfl, if_neg c0, if_neg c1, if_neg c2, Bool.and_false]
    have n0 : (tn == 0) = false := bn c0
    have n1 : (tn == 1) = false := bn c1
    have n2 : (tn == 2) = false := bn c2
    have m1 : (tn != 1) = true := by rw [bne_iff_ne]; exact c1
    clear c0 c1 c2
    cases he : ts.toList.isEmpty
    all_goals go_enter Tryz.func83, Tryz.ntmps83
    all_goals go_wp2
    all_goals go_ret
    all_goals exact ⟨aw HF.out.symm, (HB _).out⟩
  ·have HF := aa (Fq T hk)
   have m1 : (T.kind != 16) = true := by rw [bne_iff_ne]; exact hk
   unfold Nd.val at *
   subst hv
   clear hf hr hK hs hk hq cr
   generalize T.kind = tk at *
   generalize T.num = tn at *
   generalize T.name = ts at *
   go_enter Tryz.func83, Tryz.ntmps83
   go_wp2
   go_ret
   exact ⟨aw HF.out.symm, (HB _).out⟩) : G := h
theorem JR (h : G := by
 have Bp := fC.size
 have fP : w.heap.size + 1 ≤ wr.heap.size := by have := hb.size; simpa using this
 by_cases bN : j < T.len
 first
 |clear k_D49_0
  first
  |clear k_D38_0
   ·have Tk : j < b5.size := by have := J5.out; omega
    have k_D43_0 := kk
    exact Xu
   ·obtain rfl : j = T.len := by omega
    have Tk : ¬ T.len < b5.size := by have := J5.out; omega
    go_wp2
    go_ret
    exact ⟨aw (by rw [QG.out]; exact (eo (by rw [← J5.out]; exact bl.out)).symm), fC⟩
  |clear k_D38_1
   ·have E3 := mX.out j bN
    have Ln := iu.out j
    by_cases dG : S j + 1 ≤ left
    ·have k_D43_1 := kk
     exact Xu
    ·have Ta : kh S left j = -1 := by unfold kh; rw [if_neg dG]
     rw [Ta]
     go_wp2
     go_ret
     exact ⟨ix (by unfold mm; rw [HZE.out, if_neg (by omega)]), fC⟩
   ·obtain rfl : j = T.len := by omega
    go_wp2
    go_ret
    exact ⟨ix (by unfold mm kh; rw [HZE.out]; split <;> split <;> omega), fC⟩
 |clear k_D49_1
  ·have k_D40_1 := kk
   exact OZ
  ·exact XS
 |clear k_D49_2
  ·have k_D40_2 := kk
   exact OZ
  ·exact XS
 |clear k_D49_3
  ·have k_D40_0 := kk
   exact OZ
  ·obtain rfl : j = T.len := by omega
   go_wp2
   go_ret
   exact ⟨aw (by rw [HO.out, eo bl.out]), fC⟩) : G := h
theorem jm (h : G := by
 intro w v hi hf dF hr
 have hn := T.fine_len hf
 have hs := T.fine_name hf
 obtain ⟨a, cap, hv, _, hq⟩ := aH.1 hr
 first
 |clear k_D50_0
  have e8 : Hid (T.eOk = cH 22 T.num T.name T.len (fun i => (T.kids i).eOk) (fun i => (T.kids i).sOk) T.kk) := by have := de T; rw [hk] at this; exact this
  have k_D30_0 := kk
  exact XF
 |clear k_D50_1
  have e8 : Hid (T.eOk = cH 23 T.num T.name T.len (fun i => (T.kids i).eOk) (fun i => (T.kids i).sOk) T.kk) := by have := de T; rw [hk] at this; exact this
  have k_D30_1 := kk
  exact XF
 |clear k_D50_2
  have e8 : Hid (T.eOk = cH 24 T.num T.name T.len (fun i => (T.kids i).eOk) (fun i => (T.kids i).sOk) T.kk) := by have := de T; rw [hk] at this; exact this
  have k_D29_0 := kk
  exact XG
 |clear k_D50_3
  have e8 : Hid (T.eOk = cH 25 T.num T.name T.len (fun i => (T.kids i).eOk) (fun i => (T.kids i).sOk) T.kk) := by have := de T; rw [hk] at this; exact this
  have k_D29_1 := kk
  exact XG
 |clear k_D50_4
  have e8 : Hid (T.eOk = cH 26 T.num T.name T.len (fun i => (T.kids i).eOk) (fun i => (T.kids i).sOk) T.kk) := by have := de T; rw [hk] at this; exact this
  have k_D28_0 := kk
  exact O5
 |clear k_D50_5
  have e8 : Hid (T.eOk = cH 27 T.num T.name T.len (fun i => (T.kids i).eOk) (fun i => (T.kids i).sOk) T.kk) := by have := de T; rw [hk] at this; exact this
  have k_D31_0 := kk
  exact XE
 |clear k_D50_6
  have e8 : Hid (T.eOk = cH 28 T.num T.name T.len (fun i => (T.kids i).eOk) (fun i => (T.kids i).sOk) T.kk) := by have := de T; rw [hk] at this; exact this
  have k_D31_1 := kk
  exact XE
 |clear k_D50_7
  have e8 : Hid (T.eOk = cH 29 T.num T.name T.len (fun i => (T.kids i).eOk) (fun i => (T.kids i).sOk) T.kk) := by have := de T; rw [hk] at this; exact this
  have k_D24_0 := kk
  exact XK
 |clear k_D50_8
  have e8 : Hid (T.sOk = bd 5 T.num T.name T.len (fun i => (T.kids i).eOk) (fun i => (T.kids i).sOk) (fun i => (T.kids i).cOk) T.kk) := by have := bK T; rw [hk] at this; exact this
  exact bD0
 |clear k_D50_9
  have e8 : Hid (T.sOk = bd 6 T.num T.name T.len (fun i => (T.kids i).eOk) (fun i => (T.kids i).sOk) (fun i => (T.kids i).cOk) T.kk) := by have := bK T; rw [hk] at this; exact this
  exact bD0
 |clear k_D50_10
  have e8 : Hid (T.sOk = bd 7 T.num T.name T.len (fun i => (T.kids i).eOk) (fun i => (T.kids i).sOk) (fun i => (T.kids i).cOk) T.kk) := by have := bK T; rw [hk] at this; exact this
  have k_D27_1 := kk
  exact XH
 |clear k_D50_11
  have e8 : Hid (T.sOk = bd 8 T.num T.name T.len (fun i => (T.kids i).eOk) (fun i => (T.kids i).sOk) (fun i => (T.kids i).cOk) T.kk) := by have := bK T; rw [hk] at this; exact this
  have k_D28_1 := kk
  exact O5
 |clear k_D50_12
  have e8 : Hid (T.sOk = bd 17 T.num T.name T.len (fun i => (T.kids i).eOk) (fun i => (T.kids i).sOk) (fun i => (T.kids i).cOk) T.kk) := by have := bK T; rw [hk] at this; exact this
  exact bD3
 |clear k_D50_13
  have e8 : Hid (T.sOk = bd 19 T.num T.name T.len (fun i => (T.kids i).eOk) (fun i => (T.kids i).sOk) (fun i => (T.kids i).cOk) T.kk) := by have := bK T; rw [hk] at this; exact this
  exact bD1
 |clear k_D50_14
  have e8 : Hid (T.sOk = bd 20 T.num T.name T.len (fun i => (T.kids i).eOk) (fun i => (T.kids i).sOk) (fun i => (T.kids i).cOk) T.kk) := by have := bK T; rw [hk] at this; exact this
  exact bD1
 |clear k_D50_15
  have e8 : Hid (T.sOk = bd 21 T.num T.name T.len (fun i => (T.kids i).eOk) (fun i => (T.kids i).sOk) (fun i => (T.kids i).cOk) T.kk) := by have := bK T; rw [hk] at this; exact this
  exact bD1
 |clear k_D50_16
  have e8 : Hid (T.sOk = bd 18 T.num T.name T.len (fun i => (T.kids i).eOk) (fun i => (T.kids i).sOk) (fun i => (T.kids i).cOk) T.kk) := by have := bK T; rw [hk] at this; exact this
  exact bD3
 |clear k_D50_17
  have e8 : Hid (T.sOk = bd 13 T.num T.name T.len (fun i => (T.kids i).eOk) (fun i => (T.kids i).sOk) (fun i => (T.kids i).cOk) T.kk) := by have := bK T; rw [hk] at this; exact this
  exact bD2
 |clear k_D50_18
  have e8 : Hid (T.sOk = bd 14 T.num T.name T.len (fun i => (T.kids i).eOk) (fun i => (T.kids i).sOk) (fun i => (T.kids i).cOk) T.kk) := by have := bK T; rw [hk] at this; exact this
  exact bD2
 |clear k_D50_19
  have e8 : Hid (T.sOk = bd 12 T.num T.name T.len (fun i => (T.kids i).eOk) (fun i => (T.kids i).sOk) (fun i => (T.kids i).cOk) T.kk) := by have := bK T; rw [hk] at this; exact this
  have k_D25_0 := kk
  exact XJ
 |clear k_D50_20
  have e8 : Hid (T.sOk = bd 10 T.num T.name T.len (fun i => (T.kids i).eOk) (fun i => (T.kids i).sOk) (fun i => (T.kids i).cOk) T.kk) := by have := bK T; rw [hk] at this; exact this
  have k_D26_0 := kk
  exact XI
 |clear k_D50_21
  have e8 : Hid (T.sOk = bd 11 T.num T.name T.len (fun i => (T.kids i).eOk) (fun i => (T.kids i).sOk) (fun i => (T.kids i).cOk) T.kk) := by have := bK T; rw [hk] at this; exact this
  have k_D26_1 := kk
  exact XI) : G := h
theorem OX (h : G := by
 have HB : ∀ o : Obj, Hid (Below w.heap.size w (w.alloc o)) := fun o => bA
 unfold Nd.val at *
 rw [hk] at *
 subst hv
 first
 |clear k_D51_0
  clear hf hr hk hq ih
  generalize T.num = tn at *
  generalize T.name = ts at *
  cases he : ts.toList.isEmpty
  ·exact bD11
  cases h1 : (tn != 0)
  first
  |clear k_D39_0
   ·go_enter Tryz.func60, Tryz.ntmps60
    go_wp2
    go_loopg [4] T.len (fun gk i wr => ∃ (j : Nat), gk = T.len - j ∧ j ≤ T.len ∧ i = .int .i64 j ∧ Hid (∀ i, i < j → (T.kids i).sOk = true) ∧ Below (w.heap.size + 1) (w.alloc (.cells #[.int .i64 4, .int .i64 tn, .string ts, .slice a T.len cap] 25)) wr)
    case atStart => exact ⟨0, by omega, by omega, rfl, (fun i hi => by omega), Below.refl _ _⟩
    case round =>
     obtain ⟨j, rX, hj, rfl, bl, hb⟩ := hrel
     have zN := aa rX
     clear rX
     have k3 : wr.cell? ⟨w.heap.size, 3, none⟩ = some (.slice a T.len cap) := by
      exact FB
     have fC := (HB (.cells #[.int .i64 4, .int .i64 tn, .string ts, .slice a T.len cap] 25)).out.trans (hb.mono (by omega))
     have k_D49_1 := kk
     exact JR
   ·exact XR
  |clear k_D39_1
   ·go_enter Tryz.func60, Tryz.ntmps60
    go_wp2
    go_loopg [5] T.len (fun gk i wr => ∃ (j : Nat), gk = T.len - j ∧ j ≤ T.len ∧ i = .int .i64 j ∧ Hid (∀ i, i < j → (T.kids i).cOk = true) ∧ Below (w.heap.size + 1) (w.alloc (.cells #[.int .i64 15, .int .i64 tn, .string ts, .slice a T.len cap] 25)) wr)
    case atStart => exact ⟨0, by omega, by omega, rfl, (fun i hi => by omega), Below.refl _ _⟩
    case round =>
     obtain ⟨j, rX, hj, rfl, bl, hb⟩ := hrel
     have zN := aa rX
     clear rX
     have k3 : wr.cell? ⟨w.heap.size, 3, none⟩ = some (.slice a T.len cap) := by
      exact FB
     have fC := (HB (.cells #[.int .i64 15, .int .i64 tn, .string ts, .slice a T.len cap] 25)).out.trans (hb.mono (by omega))
     have k_D49_2 := kk
     exact JR
   ·exact XR
 |clear k_D51_1
  clear hf hr hK hk hq
  generalize T.num = tn at *
  generalize T.name = ts at *
  have K6 : T.kk 0 = (T.kids 0).kind := rfl
  cases ia : aK (fun i => (T.kids i).eOk) (fun i => (T.kids i).sOk) T.kk T.len ⟨#[101]⟩
  ·clear K6
   cases he : ts.toList.isEmpty
   all_goals cases h1 : (tn != 0)
   all_goals go_enter Tryz.func60, Tryz.ntmps60
   all_goals go_wp2_with (go_at_call 82; refine (HK.out _ (HB _).out ⟨#[101]⟩ (by decide)).mono ?_; rw [ia]; rintro e w2 ⟨rfl, ba⟩; have ed := ba.size; simp only [World.size_alloc] at ed; obtain ⟨iG, tp⟩ := eu ba)
   all_goals go_ret
   all_goals refine ⟨aw (by rw [e8.out]; unfold bd; simp only [ao, he, kH h1, ia]; rfl), ?_⟩
   all_goals first | exact (HB _).out | exact (HB _).out.trans (ba.mono (by simp))
  ·have wb := sR ia
   rcases HQ.out with h0 | ⟨g, off, rfl, g1, g2, g3⟩
   ·omega
   obtain ⟨u, e0, _⟩ := g3 0 (by omega)
   simp only [Nat.zero_mul, Nat.add_zero] at e0
   rw [← K6] at e0
   have HE0 := aa e0
   have bN : (0 : Int) < (T.len : Int) := by omega
   clear K6 wb e0 g3
   generalize Ch : T.kk 0 = k0 at *
   have QB := aa Ch
   clear Ch
   cases he : ts.toList.isEmpty
   all_goals cases h1 : (tn != 0)
   all_goals cases h2 : (k0 == 25)
   all_goals cases h3 : (k0 == 29)
   all_goals go_enter Tryz.func60, Tryz.ntmps60
   all_goals go_wp2_with (go_at_call 82; refine (HK.out _ (HB _).out ⟨#[101]⟩ (by decide)).mono ?_; rw [ia]; rintro e w2 ⟨rfl, ba⟩; have ed := ba.size; simp only [World.size_alloc] at ed; obtain ⟨iG, tp⟩ := eu ba; have q0 := (((HB _).out.trans (ba.mono (by simp))).cell (p := ⟨g, off, none⟩) (by show g < _; omega)).trans HE0.out)
   all_goals go_ret
   all_goals refine ⟨aw (by rw [e8.out]; unfold bd; simp only [ao, he, kH h1, ia, QB.out, pM h2, pM h3]; rfl), ?_⟩
   all_goals first | exact (HB _).out | exact (HB _).out.trans (ba.mono (by simp))
 |clear k_D51_2
  clear hf hr hE hK hs hk hq
  generalize T.num = tn at *
  generalize T.name = ts at *
  first
  |clear k_D37_0
   cases he : ts.toList.isEmpty
   first
   |clear k_D35_0
    all_goals cases h1 : (tn != 0)
    first
    |clear k_D32_0
     all_goals cases ia : aK (fun i => (T.kids i).eOk) (fun i => (T.kids i).sOk) T.kk T.len ⟨#[101]⟩
     first
     |clear k_D24_0
      all_goals go_enter Tryz.func103, Tryz.ntmps103
      all_goals go_wp2_with (first | (go_at_call 82; refine (HK.out _ xR ⟨#[101]⟩ (by decide)).mono ?_; rw [ia]; rintro e w2 ⟨rfl, ba⟩; have ed := ba.size; (try simp only [World.size_alloc] at ed); obtain ⟨iG, tp⟩ := eu ba))
      all_goals go_ret
      all_goals refine ⟨aw (by rw [e8.out]; unfold cH; simp only [ao, he, kH h1, ia]; rfl), ?_⟩
      all_goals exact vj
     |clear k_D24_1
      all_goals go_enter Tryz.func60, Tryz.ntmps60
      all_goals go_wp2_with (first | (go_at_call 82; refine (HK.out _ xR ⟨#[101]⟩ (by decide)).mono ?_; rw [ia]; rintro e w2 ⟨rfl, ba⟩; have ed := ba.size; (try simp only [World.size_alloc] at ed); obtain ⟨iG, tp⟩ := eu ba))
      all_goals go_ret
      all_goals refine ⟨aw (by rw [e8.out]; unfold bd; simp only [ao, he, kH h1, ia]; rfl), ?_⟩
      all_goals exact vj
    |clear k_D32_1
     all_goals cases h3 : ((T.len : Int) == 0)
     first
     |clear k_D25_0
      all_goals cases ia : aK (fun i => (T.kids i).eOk) (fun i => (T.kids i).sOk) T.kk T.len ⟨#[101]⟩
      all_goals go_enter Tryz.func60, Tryz.ntmps60
      all_goals go_wp2_with (first | (go_at_call 82; refine (HK.out _ xR ⟨#[101]⟩ (by decide)).mono ?_; rw [ia]; rintro e w2 ⟨rfl, ba⟩; have ed := ba.size; (try simp only [World.size_alloc] at ed); obtain ⟨iG, tp⟩ := eu ba))
      all_goals go_ret
      all_goals refine ⟨aw (by rw [e8.out]; unfold bd; simp only [ao, he, kH h1, nV h3, ia]; rfl), ?_⟩
      all_goals exact vj
     |clear k_D25_1
      all_goals go_enter Tryz.func60, Tryz.ntmps60
      all_goals go_wp2
      all_goals go_ret
      all_goals refine ⟨aw (by rw [e8.out]; unfold bd; simp only [ao, he, kH h1, nV h3]; rfl), ?_⟩
      all_goals exact vj
    |clear k_D32_2
     first
     |clear k_D28_0
      all_goals cases h2 : decide ((T.len : Int) < 2)
      all_goals cases Ua : aG (fun i => (T.kids i).eOk) T.len
      all_goals go_enter Tryz.func103, Tryz.ntmps103
      all_goals go_wp2_with (first | (go_at_call 113; refine (HE.out _ (by first | exact (HB _).out | exact (HB _).out.trans (hb1.mono (by simp)))).mono ?_; rw [Ua]; rintro e w2 ⟨rfl, ba⟩))
      all_goals go_ret
      all_goals refine ⟨aw (by rw [e8.out]; unfold cH; simp only [ao, he, kH h1, Rx h2, Ua]; rfl), ?_⟩
      all_goals exact vj
     |clear k_D28_1
      all_goals cases ia : aK (fun i => (T.kids i).eOk) (fun i => (T.kids i).sOk) T.kk T.len ⟨#[101, 101]⟩
      all_goals go_enter Tryz.func60, Tryz.ntmps60
      all_goals go_wp2_with (first | (go_at_call 82; refine (HK.out _ xR ⟨#[101, 101]⟩ (by decide)).mono ?_; rw [ia]; rintro e w2 ⟨rfl, ba⟩; have ed := ba.size; (try simp only [World.size_alloc] at ed); obtain ⟨iG, tp⟩ := eu ba))
      all_goals go_ret
      all_goals refine ⟨aw (by rw [e8.out]; unfold bd; simp only [ao, he, kH h1, ia]; rfl), ?_⟩
      all_goals exact vj
     |clear k_D28_2
      all_goals cases ia : aK (fun i => (T.kids i).eOk) (fun i => (T.kids i).sOk) T.kk T.len ⟨#[99]⟩
      all_goals go_enter Tryz.func60, Tryz.ntmps60
      all_goals go_wp2_with (first | (go_at_call 82; refine (HK.out _ xR ⟨#[99]⟩ (by decide)).mono ?_; rw [ia]; rintro e w2 ⟨rfl, ba⟩; have ed := ba.size; (try simp only [World.size_alloc] at ed); obtain ⟨iG, tp⟩ := eu ba))
      all_goals go_ret
      all_goals refine ⟨aw (by rw [e8.out]; unfold bd; simp only [ao, he, kH h1, ia]; rfl), ?_⟩
      all_goals exact vj
   |clear k_D35_1
    first
    |clear k_D33_0
     all_goals cases dn : aR ts
     first
     |clear k_D27_0
      all_goals cases h1 : (tn != 0)
      all_goals cases ia : aK (fun i => (T.kids i).eOk) (fun i => (T.kids i).sOk) T.kk T.len ⟨#[101]⟩
      all_goals go_enter Tryz.func60, Tryz.ntmps60
      all_goals go_wp2_with (first | (go_at_call 59; refine (gW _ _ HS.out).mono ?_; rw [dn]; rintro e w1 ⟨rfl, hb1⟩; have eT := hb1.size; simp only [World.size_alloc] at eT; obtain ⟨eM, qN⟩ := eu hb1) | (go_at_call 82; refine (HK.out _ xR ⟨#[101]⟩ (by decide)).mono ?_; rw [ia]; rintro e w2 ⟨rfl, ba⟩; have ed := ba.size; (try simp only [World.size_alloc] at ed); obtain ⟨iG, tp⟩ := eu ba))
      all_goals go_ret
      all_goals refine ⟨aw (by rw [e8.out]; unfold bd; simp only [ao, he, dn, kH h1, ia]; rfl), ?_⟩
      all_goals exact vj
     |clear k_D27_1
      all_goals cases h1 : (tn == 1)
      all_goals cases h2 : (tn == -1)
      all_goals cases h3 : ((T.len : Int) == 0)
      all_goals go_enter Tryz.func60, Tryz.ntmps60
      all_goals go_wp2_with (first | (go_at_call 59; refine (gW _ _ HS.out).mono ?_; rw [dn]; rintro e w1 ⟨rfl, hb1⟩; have eT := hb1.size; simp only [World.size_alloc] at eT; obtain ⟨eM, qN⟩ := eu hb1))
      all_goals go_ret
      all_goals refine ⟨aw (by rw [e8.out]; unfold bd; simp only [ao, he, dn, pM h1, pM h2, nV h3]; rfl), ?_⟩
      all_goals exact vj
    |clear k_D33_1
     first
     |clear k_D30_0
      all_goals cases h1 : decide (0 ≤ tn)
      all_goals cases h2 : decide (tn ≤ 999999999999999999)
      all_goals cases h3 : ((T.len : Int) == 0)
      all_goals go_enter Tryz.func103, Tryz.ntmps103
      all_goals go_wp2
      all_goals go_ret
      all_goals refine ⟨aw (by rw [e8.out]; unfold cH; simp only [ao, he, h1, h2, nV h3]; rfl), ?_⟩
      all_goals exact vj
     |clear k_D30_1
      all_goals cases h1 : (tn == 0)
      all_goals cases h2 : (tn == 1)
      all_goals cases h3 : ((T.len : Int) == 0)
      all_goals go_enter Tryz.func103, Tryz.ntmps103
      all_goals go_wp2
      all_goals go_ret
      all_goals refine ⟨aw (by rw [e8.out]; unfold cH; simp only [ao, he, pM h1, pM h2, nV h3]; rfl), ?_⟩
      all_goals exact vj
  |clear k_D37_1
   first
   |clear k_D36_0
    cases h1 : (tn != 0)
    first
    |clear k_D34_0
     all_goals cases dn : aR ts
     first
     |clear k_D29_0
      all_goals cases h3 : ((T.len : Int) == 0)
      all_goals go_enter Tryz.func103, Tryz.ntmps103
      all_goals go_wp2_with (first | (go_at_call 59; refine (gW _ _ HS.out).mono ?_; rw [dn]; rintro e w1 ⟨rfl, hb1⟩; have eT := hb1.size; simp only [World.size_alloc] at eT; obtain ⟨eM, qN⟩ := eu hb1))
      all_goals go_ret
      all_goals refine ⟨aw (by rw [e8.out]; unfold cH; simp only [ao, kH h1, dn, nV h3]; rfl), ?_⟩
      all_goals exact vj
     |clear k_D29_1
      all_goals cases Ua : aG (fun i => (T.kids i).eOk) T.len
      all_goals go_enter Tryz.func103, Tryz.ntmps103
      all_goals go_wp2_with (first | (go_at_call 59; refine (gW _ _ HS.out).mono ?_; rw [dn]; rintro e w1 ⟨rfl, hb1⟩; have eT := hb1.size; simp only [World.size_alloc] at eT; obtain ⟨eM, qN⟩ := eu hb1) | (go_at_call 113; refine (HE.out _ (by first | exact (HB _).out | exact (HB _).out.trans (hb1.mono (by simp)))).mono ?_; rw [Ua]; rintro e w2 ⟨rfl, ba⟩))
      all_goals go_ret
      all_goals refine ⟨aw (by rw [e8.out]; unfold cH; simp only [ao, kH h1, dn, Ua]; rfl), ?_⟩
      all_goals exact vj
    |clear k_D34_1
     first
     |clear k_D31_0
      all_goals cases h2 : (ts.toList == [45])
      all_goals cases h3 : (ts.toList == [33])
      all_goals cases ia : aK (fun i => (T.kids i).eOk) (fun i => (T.kids i).sOk) T.kk T.len ⟨#[101]⟩
      all_goals go_enter Tryz.func103, Tryz.ntmps103
      all_goals go_wp2_with (first | (go_at_call 82; refine (HK.out _ xR ⟨#[101]⟩ (by decide)).mono ?_; rw [ia]; rintro e w2 ⟨rfl, ba⟩; have ed := ba.size; (try simp only [World.size_alloc] at ed); obtain ⟨iG, tp⟩ := eu ba))
      all_goals go_ret
      all_goals refine ⟨aw (by rw [e8.out]; unfold cH; simp only [ao, kH h1, h2, h3, ia]; rfl), ?_⟩
      all_goals exact vj
     |clear k_D31_1
      all_goals cases h2 : decide (0 < iU ts)
      all_goals cases ia : aK (fun i => (T.kids i).eOk) (fun i => (T.kids i).sOk) T.kk T.len ⟨#[101, 101]⟩
      all_goals go_enter Tryz.func103, Tryz.ntmps103
      all_goals go_wp2_with (first | (go_at_call 114; refine (sV _ _).mono ?_; rintro e w1 ⟨rfl, hb1⟩; have eT := hb1.size; simp only [World.size_alloc] at eT; obtain ⟨eM, qN⟩ := eu hb1) | (go_at_call 82; refine (HK.out _ xR ⟨#[101, 101]⟩ (by decide)).mono ?_; rw [ia]; rintro e w2 ⟨rfl, ba⟩; have ed := ba.size; (try simp only [World.size_alloc] at ed); obtain ⟨iG, tp⟩ := eu ba))
      all_goals go_ret
      all_goals refine ⟨aw (by rw [e8.out]; unfold cH; simp only [ao, kH h1, h2, ia]; rfl), ?_⟩
      all_goals exact vj
   |clear k_D36_1
    have P1 : Hid True := trivial
    cases he : ts.toList.isEmpty
    all_goals cases h1 : (tn != 0)
    first
    |clear k_D26_0
     all_goals cases ia : aK (fun i => (T.kids i).eOk) (fun i => (T.kids i).sOk) T.kk T.len ⟨#[101, 98]⟩
     all_goals cases Ti : aK (fun i => (T.kids i).eOk) (fun i => (T.kids i).sOk) T.kk T.len ⟨#[101, 98, 105]⟩
     all_goals go_enter Tryz.func60, Tryz.ntmps60
     all_goals go_wp2_with (first | (go_at_call 82; clear P1; refine (HK.out _ xR ⟨#[101, 98]⟩ (by decide)).mono ?_; rw [ia]; rintro e w2 ⟨rfl, ba⟩; have ed := ba.size; (try simp only [World.size_alloc] at ed); obtain ⟨iG, tp⟩ := eu ba) | (go_at_call 82; refine (HK.out _ xR ⟨#[101, 98, 105]⟩ (by decide)).mono ?_; rw [Ti]; rintro e w3 ⟨rfl, cZ⟩; have ed := cZ.size; (try simp only [World.size_alloc] at ed); obtain ⟨iG, tp⟩ := eu cZ))
     all_goals go_ret
     all_goals refine ⟨aw (by rw [e8.out]; unfold bd; simp only [ao, he, kH h1, ia, Ti]; rfl), ?_⟩
     all_goals exact vj
    |clear k_D26_1
     all_goals cases ia : aK (fun i => (T.kids i).eOk) (fun i => (T.kids i).sOk) T.kk T.len ⟨#[98]⟩
     all_goals cases Ti : aK (fun i => (T.kids i).eOk) (fun i => (T.kids i).sOk) T.kk T.len ⟨#[101, 98]⟩
     all_goals go_enter Tryz.func60, Tryz.ntmps60
     all_goals go_wp2_with (first | (go_at_call 82; clear P1; refine (HK.out _ xR ⟨#[98]⟩ (by decide)).mono ?_; rw [ia]; rintro e w2 ⟨rfl, ba⟩; have ed := ba.size; (try simp only [World.size_alloc] at ed); obtain ⟨iG, tp⟩ := eu ba) | (go_at_call 82; refine (HK.out _ xR ⟨#[101, 98]⟩ (by decide)).mono ?_; rw [Ti]; rintro e w3 ⟨rfl, cZ⟩; have ed := cZ.size; (try simp only [World.size_alloc] at ed); obtain ⟨iG, tp⟩ := eu cZ))
     all_goals go_ret
     all_goals refine ⟨aw (by rw [e8.out]; unfold bd; simp only [ao, he, kH h1, ia, Ti]; rfl), ?_⟩
     all_goals exact vj) : G := h
def iK (T : Nd) : Prop := ∀ (w : World) (v : Value) (hi : Nat), T.Fine → hi ≤ w.heap.size → Row 0 hi w T v →
 Calls Tryz.prog 103 #[T.val v] w fun e w' => e = .returned (.bool T.eOk) ∧ Below w.heap.size w w'
def eK (T : Nd) : Prop := ∀ (w : World) (v : Value) (hi : Nat), T.Fine → hi ≤ w.heap.size → Row 0 hi w T v →
 Calls Tryz.prog 60 #[T.val v] w fun e w' => e = .returned (.bool T.sOk) ∧ Below w.heap.size w w'
def sG (T : Nd) : Prop := ∀ (w : World) (v : Value) (hi : Nat), T.Fine → hi ≤ w.heap.size → Row 0 hi w T v →
 Calls Tryz.prog 83 #[T.val v] w fun e w' => e = .returned (.bool T.cOk) ∧ Below w.heap.size w w'
def dQ (T : Nd) : Prop := ∀ (w : World) (v : Value) (hi : Nat), T.Fine → hi ≤ w.heap.size → Row 0 hi w T v →
 Calls Tryz.prog 113 #[v] w fun e w' => e = .returned (.bool (aG (fun i => (T.kids i).eOk) T.len)) ∧ Below w.heap.size w w'
def e6 (T : Nd) : Prop := ∀ (w : World) (v : Value) (hi : Nat) (b5 : ByteArray), T.Fine → hi ≤ w.heap.size → Row 0 hi w T v → b5.size ≤ 10 →
 Calls Tryz.prog 82 #[T.val v, .string b5] w fun e w' => e = .returned (.bool (aK (fun i => (T.kids i).eOk) (fun i => (T.kids i).sOk) T.kk T.len b5)) ∧ Below w.heap.size w w'
theorem Fa (T : Nd) (ih : ∀ i, i < T.len → iK (T.kids i)) : dQ T := by
 intro w v hi hf dF hr
 have hn := T.fine_len hf
 obtain ⟨a, cap, rfl, cr, hq⟩ := aH.1 hr
 have HI := aa ih
 have HF := aa hf
 have HR := aa hq
 clear hr hf ih hq cr
 go_enter Tryz.func113, Tryz.ntmps113
 go_wp2
 go_loopw [3] (fun i wr => ∃ (j : Nat), j ≤ T.len ∧ i = .int .i64 j ∧ Hid (∀ i, i < j → (T.kids i).eOk = true) ∧ Below w.heap.size w wr) (fun i _ => T.len - (intOf i).toNat)
 case atStart => exact ⟨0, by omega, rfl, (fun i hi => by omega), Below.refl _ _⟩
 case round =>
  obtain ⟨j, hj, rfl, bl, hb⟩ := hrel
  have Bp := hb.size
  by_cases bN : j < T.len
  ·rcases HR.out with h0 | ⟨g, off, rfl, h1, h2, h3⟩
   ·omega
   obtain ⟨u, e0, e1, e2, e3, hu⟩ := h3 j bN
   have iM : g < w.heap.size := by omega
   rw [← hb.cell (p := ⟨g, _, none⟩) iM] at e0 e1 e2 e3
   have HU := aa (ah hb dF hu)
   have HC := HI.out j bN
   have yB := aa (Nd.fine_kid HF.out bN)
   have HN : Hid ((T.kids j).eOk = false → aG (fun i => (T.kids i).eOk) T.len = false) := fun h => gm bN h
   have HY : Hid ((T.kids j).eOk = true → ∀ i, i < j + 1 → (T.kids i).eOk = true) := fun h i hi => by
    by_cases e : i = j
    ·subst e; exact h
    ·exact bl.out i (by omega)
   unfold iK Nd.val at HC
   have qR := aa HC
   clear h3 HC hu bl
   generalize T.kids j = K at *
   cases hk : K.eOk
   all_goals have HX := aa hk
   all_goals clear hk
   all_goals go_wp2_with (go_at_call 103; refine (qR.out _ _ hi yB.out (by omega) HU.out).mono ?_; rw [HX.out]; rintro e w1 ⟨rfl, hb1⟩)
   ·go_ret
    exact ⟨aw (HN.out HX.out).symm, hb.trans (hb1.mono Bp)⟩
   ·exact ⟨⟨j + 1, by omega, by go_num, HY.out HX.out, hb.trans (hb1.mono Bp)⟩, by simp [intOf]; omega⟩
  ·obtain rfl : j = T.len := by omega
   go_wp2
   go_ret
   exact ⟨aw (eo bl.out).symm, hb⟩
theorem yO {b5 : ByteArray} {j : Nat} (h : j < b5.size) : b5.data.toList.getD j 0 = b5[j] := by
 have : j < b5.data.toList.length := by simpa using h
 simp only [List.getD, List.getElem?_eq_getElem this, Option.getD_some]; rfl
theorem Ic (T : Nd) (ih : ∀ i, i < T.len → iK (T.kids i) ∧ eK (T.kids i)) : e6 T := by
 intro w v hi b5 hf dF hr hs
 have hn := T.fine_len hf
 obtain ⟨a, cap, rfl, cr, hq⟩ := aH.1 hr
 have HI := aa ih
 have HF := aa hf
 have HR := aa hq
 clear hr hf ih hq cr
 unfold Nd.val
 generalize T.kind = tk
 generalize T.num = tn
 generalize T.name = ts
 have HB : ∀ a : Obj, Hid (Below w.heap.size w (w.alloc a)) := fun a => bA
 by_cases hlen : T.len = b5.size
 ·have IA : ((T.len : Int) != (b5.size : Int)) = false := by simp [hlen]
  have QG : Hid (aK (fun i => (T.kids i).eOk) (fun i => (T.kids i).sOk) T.kk T.len b5 = aG (fun i => cq (fun i => (T.kids i).eOk) (fun i => (T.kids i).sOk) T.kk (b5.data.toList.getD i 0).toNat i) b5.size) := by
   unfold Hid aK; simp [hlen]
  have J5 := aa hlen
  clear hlen
  have hle : T.len ≤ 10 := by have := J5.out; omega
  go_enter Tryz.func82, Tryz.ntmps82
  go_wp2
  go_loopg [5] T.len (fun gk i wr => ∃ (j : Nat), gk = T.len - j ∧ j ≤ T.len ∧ i = .int .i64 j ∧ Hid (∀ i, i < j → cq (fun i => (T.kids i).eOk) (fun i => (T.kids i).sOk) T.kk (b5.data.toList.getD i 0).toNat i = true) ∧ Below (w.heap.size + 1) (w.alloc (.cells #[.int .i64 tk, .int .i64 tn, .string ts, .slice a T.len cap] 25)) wr)
  case atStart => exact ⟨0, by omega, by omega, rfl, (fun i hi => by omega), Below.refl _ _⟩
  case round =>
   obtain ⟨j, rX, hj, rfl, bl, hb⟩ := hrel
   have zN := aa rX
   clear rX
   have k_D38_0 := kk
   exact Xy
 ·have IA : ((T.len : Int) != (b5.size : Int)) = true := by rw [bne_iff_ne]; omega
  have QG : Hid (aK (fun i => (T.kids i).eOk) (fun i => (T.kids i).sOk) T.kk T.len b5 = false) := by
   unfold Hid aK; simp [hlen]
  go_enter Tryz.func82, Tryz.ntmps82
  go_wp2
  go_ret
  exact ⟨aw QG.out.symm, (HB _).out⟩
theorem nV {n : Nat} {b : Bool} (h : ((n : Int) == 0) = b) : decide (n = 0) = b := by
 subst h; rw [Bool.eq_iff_iff]; simp
theorem pM {n m : Int} {b : Bool} (h : (n == m) = b) : decide (n = m) = b := by
 subst h; rw [Bool.eq_iff_iff]; simp
theorem kH {n : Int} {b : Bool} (h : (n != 0) = b) : decide (n = 0) = !b := by
 subst h; rw [Bool.eq_iff_iff]; simp
theorem Rx {n : Nat} {b : Bool} (h : decide ((n : Int) < 2) = b) : decide (n < 2) = b := by
 subst h; rw [Bool.eq_iff_iff]; simp; omega
theorem eu {W w1 : World} (hb : Below W.heap.size W w1) : (∀ b o, b < W.heap.size → w1.cell? ⟨b, o, none⟩ = W.cell? ⟨b, o, none⟩) ∧ (∀ b o, b < W.heap.size → w1.frozen? ⟨b, o, none⟩ = W.frozen? ⟨b, o, none⟩) :=
 ⟨fun b o h => hb.cell (p := ⟨b, o, none⟩) h, fun b o h => hb.frozen (p := ⟨b, o, none⟩) h⟩
theorem Jc (T : Nd) (hk : T.kind = 22) (hE : dQ T) (hK : e6 T) : iK T := by
 have k_D50_0 := kk
 exact jm
theorem Jb (T : Nd) (hk : T.kind = 23) (hE : dQ T) (hK : e6 T) : iK T := by
 have k_D50_1 := kk
 exact jm
theorem Ja (T : Nd) (hk : T.kind = 24) (hE : dQ T) (hK : e6 T) : iK T := by
 have k_D50_2 := kk
 exact jm
theorem I9 (T : Nd) (hk : T.kind = 25) (hE : dQ T) (hK : e6 T) : iK T := by
 have k_D50_3 := kk
 exact jm
theorem I8 (T : Nd) (hk : T.kind = 26) (hE : dQ T) (hK : e6 T) : iK T := by
 have k_D50_4 := kk
 exact jm
theorem I7 (T : Nd) (hk : T.kind = 27) (hE : dQ T) (hK : e6 T) : iK T := by
 have k_D50_5 := kk
 exact jm
theorem I6 (T : Nd) (hk : T.kind = 28) (hE : dQ T) (hK : e6 T) : iK T := by
 have k_D50_6 := kk
 exact jm
theorem I5 (T : Nd) (hk : T.kind = 29) (hE : dQ T) (hK : e6 T) : iK T := by
 have k_D50_7 := kk
 exact jm
theorem L3 (T : Nd) (hk : T.kind = 5) (hE : dQ T) (hK : e6 T) : eK T := by
 have k_D50_8 := kk
 exact jm
theorem L2 (T : Nd) (hk : T.kind = 6) (hE : dQ T) (hK : e6 T) : eK T := by
 have k_D50_9 := kk
 exact jm
theorem L1 (T : Nd) (hk : T.kind = 7) (hE : dQ T) (hK : e6 T) : eK T := by
 have k_D50_10 := kk
 exact jm
theorem L0 (T : Nd) (hk : T.kind = 8) (hE : dQ T) (hK : e6 T) : eK T := by
 have k_D50_11 := kk
 exact jm
theorem Ho (T : Nd) (hk : T.kind = 17) (hE : dQ T) (hK : e6 T) : eK T := by
 have k_D50_12 := kk
 exact jm
theorem Hm (T : Nd) (hk : T.kind = 19) (hE : dQ T) (hK : e6 T) : eK T := by
 have k_D50_13 := kk
 exact jm
theorem Hl (T : Nd) (hk : T.kind = 20) (hE : dQ T) (hK : e6 T) : eK T := by
 have k_D50_14 := kk
 exact jm
theorem Hk (T : Nd) (hk : T.kind = 21) (hE : dQ T) (hK : e6 T) : eK T := by
 have k_D50_15 := kk
 exact jm
theorem Hn (T : Nd) (hk : T.kind = 18) (hE : dQ T) (hK : e6 T) : eK T := by
 have k_D50_16 := kk
 exact jm
theorem Hr (T : Nd) (hk : T.kind = 13) (hE : dQ T) (hK : e6 T) : eK T := by
 have k_D50_17 := kk
 exact jm
theorem Hq (T : Nd) (hk : T.kind = 14) (hE : dQ T) (hK : e6 T) : eK T := by
 have k_D50_18 := kk
 exact jm
theorem Hs (T : Nd) (hk : T.kind = 12) (hE : dQ T) (hK : e6 T) : eK T := by
 have k_D50_19 := kk
 exact jm
theorem Hu (T : Nd) (hk : T.kind = 10) (hE : dQ T) (hK : e6 T) : eK T := by
 have k_D50_20 := kk
 exact jm
theorem Ht (T : Nd) (hk : T.kind = 11) (hE : dQ T) (hK : e6 T) : eK T := by
 have k_D50_21 := kk
 exact jm
theorem sR {e st : Nat → Bool} {kk : Nat → Int} {len : Nat} (h : aK e st kk len ⟨#[101]⟩ = true) : len = 1 := by
 unfold aK at h
 simp only [Bool.and_eq_true, decide_eq_true_eq] at h
 exact h.1
theorem LZ (T : Nd) (hk : T.kind = 9) (hK : e6 T) : eK T := by
 intro w v hi hf dF hr
 have hn := T.fine_len hf
 obtain ⟨a, cap, hv, _, hq⟩ := aH.1 hr
 have e8 : Hid (T.sOk = bd 9 T.num T.name T.len (fun i => (T.kids i).eOk) (fun i => (T.kids i).sOk) (fun i => (T.kids i).cOk) T.kk) := by have := bK T; rw [hk] at this; exact this
 have k_D48_0 := kk
 exact OY
theorem L4 (T : Nd) (hk : T.kind = 4) (ih : ∀ i, i < T.len → eK (T.kids i)) : eK T := by
 intro w v hi hf dF hr
 have hn := T.fine_len hf
 obtain ⟨a, cap, hv, _, hq⟩ := aH.1 hr
 have e8 : Hid (T.sOk = (ao T.name && decide (T.num = 0) && aG (fun i => (T.kids i).sOk) T.len)) := by have := bK T; rw [hk] at this; exact this
 have k_D39_0 := kk
 exact Xx
theorem Hp (T : Nd) (hk : T.kind = 15) (ih : ∀ i, i < T.len → sG (T.kids i)) : eK T := by
 intro w v hi hf dF hr
 have hn := T.fine_len hf
 obtain ⟨a, cap, hv, _, hq⟩ := aH.1 hr
 have e8 : Hid (T.sOk = (ao T.name && decide (T.num = 0) && aG (fun i => (T.kids i).cOk) T.len)) := by have := bK T; rw [hk] at this; exact this
 have k_D39_1 := kk
 exact Xx
theorem yb (T : Nd) (dE : ∀ k : Int, k ∈ [22, 23, 24, 25, 26, 27, 28, 29] → T.kind ≠ k) : iK T := by
 intro w v hi hf dF hr
 have hs := T.fine_name hf
 obtain ⟨a, cap, hv, _, hq⟩ := aH.1 hr
 have e8 : Hid (T.eOk = false) := by
  unfold Hid; rw [de T]; unfold cH
  simp only [List.mem_cons, List.not_mem_nil, or_false, forall_eq_or_imp, forall_eq] at dE
  simp only [dE, if_false]
 have HB : ∀ o : Obj, Hid (Below w.heap.size w (w.alloc o)) := fun o => bA
 have n22 : (T.kind == 22) = false := bn (dE 22 (by simp))
 have n23 : (T.kind == 23) = false := bn (dE 23 (by simp))
 have n24 : (T.kind == 24) = false := bn (dE 24 (by simp))
 have n25 : (T.kind == 25) = false := bn (dE 25 (by simp))
 have n26 : (T.kind == 26) = false := bn (dE 26 (by simp))
 have n27 : (T.kind == 27) = false := bn (dE 27 (by simp))
 have n28 : (T.kind == 28) = false := bn (dE 28 (by simp))
 have n29 : (T.kind == 29) = false := bn (dE 29 (by simp))
 have m22 : (T.kind != 22) = true := by rw [bne_iff_ne]; exact dE 22 (by simp)
 have m23 : (T.kind != 23) = true := by rw [bne_iff_ne]; exact dE 23 (by simp)
 have k_D44_1 := kk
 exact Xt
theorem wM (T : Nd) (dE : ∀ k : Int, k ∈ [4, 5, 6, 7, 8, 9, 10, 11, 12, 13, 14, 15, 17, 18, 19, 20, 21] → T.kind ≠ k) : eK T := by
 intro w v hi hf dF hr
 have hs := T.fine_name hf
 obtain ⟨a, cap, hv, _, hq⟩ := aH.1 hr
 have e8 : Hid (T.sOk = false) := by
  unfold Hid; rw [bK T]; unfold bd
  simp only [List.mem_cons, List.not_mem_nil, or_false, forall_eq_or_imp, forall_eq] at dE
  simp only [dE, or_self, if_false]
 have HB : ∀ o : Obj, Hid (Below w.heap.size w (w.alloc o)) := fun o => bA
 have n4 : (T.kind == 4) = false := bn (dE 4 (by simp))
 have n5 : (T.kind == 5) = false := bn (dE 5 (by simp))
 have n6 : (T.kind == 6) = false := bn (dE 6 (by simp))
 have n7 : (T.kind == 7) = false := bn (dE 7 (by simp))
 have n8 : (T.kind == 8) = false := bn (dE 8 (by simp))
 have n9 : (T.kind == 9) = false := bn (dE 9 (by simp))
 have n10 : (T.kind == 10) = false := bn (dE 10 (by simp))
 have n11 : (T.kind == 11) = false := bn (dE 11 (by simp))
 have n12 : (T.kind == 12) = false := bn (dE 12 (by simp))
 have n13 : (T.kind == 13) = false := bn (dE 13 (by simp))
 have n14 : (T.kind == 14) = false := bn (dE 14 (by simp))
 have n15 : (T.kind == 15) = false := bn (dE 15 (by simp))
 have n17 : (T.kind == 17) = false := bn (dE 17 (by simp))
 have n18 : (T.kind == 18) = false := bn (dE 18 (by simp))
 have n19 : (T.kind == 19) = false := bn (dE 19 (by simp))
 have n20 : (T.kind == 20) = false := bn (dE 20 (by simp))
 have n21 : (T.kind == 21) = false := bn (dE 21 (by simp))
 have m7 : (T.kind != 7) = true := by rw [bne_iff_ne]; exact dE 7 (by simp)
 have k_D44_0 := kk
 exact Xt
theorem Fq (T : Nd) (h : T.kind ≠ 16) : T.cOk = false := by rw [mR]; unfold iH; rw [if_neg h]
theorem Fs (T : Nd) (hK : e6 T) : sG T := by
 have k_D47_0 := kk
 exact Xq
def FZ (T : Nd) : Prop := ∀ (w : World) (v : Value) (hi : Nat), T.Fine → hi ≤ w.heap.size → Row 0 hi w T v →
 Calls Tryz.prog 30 #[T.val v] w fun e w' => e = .returned (.bool (dd T)) ∧ Below w.heap.size w w'
theorem E4 (T : Nd) (ih : ∀ i, i < T.len → eK (T.kids i)) : FZ T := by
 have k_D47_1 := kk
 exact Xq
def zL (T : Nd) : Prop := ∀ (w : World) (left : Nat) (v : Value) (hi : Nat), T.Fine → hi ≤ w.heap.size → Row 0 hi w T v → left ≤ 1048576 →
 Calls Tryz.prog 29 #[T.val v, .int .i64 left] w fun e w' => e = .returned (.int .i64 (mm T.size left)) ∧ Below w.heap.size w w'
def kh (S : Nat → Nat) (left j : Nat) : Int := if S j + 1 ≤ left then ((left - (S j + 1) : Nat) : Int) else -1
theorem yW (T : Nd) (ih : ∀ i, i < T.len → zL (T.kids i)) : zL T := by
 intro w left v hi hf dF hr hl
 have hn := T.fine_len hf
 have hze := T.size_eq
 obtain ⟨a, cap, rfl, cr, hq⟩ := aH.1 hr
 clear cr
 have HI := aa ih
 have HF := aa hf
 have HR := aa hq
 clear hr hf ih hq
 have aM : ∀ j, j < T.len → ar (fun i => (T.kids i).size) j + (T.kids j).size ≤ ar (fun i => (T.kids i).size) T.len := fun j hj => jO _ hj
 have cy : ∀ j, ar (fun i => (T.kids i).size) (j + 1) = ar (fun i => (T.kids i).size) j + (T.kids j).size := fun j => rfl
 have h00 : ar (fun i => (T.kids i).size) 0 = 0 := rfl
 generalize ar (fun i => (T.kids i).size) = S at *
 have mX := aa aM
 have iu := aa cy
 have HZE := aa hze
 clear aM cy hze
 unfold Nd.val
 generalize T.kind = tk
 generalize T.num = tn
 generalize T.name = ts
 have HB : ∀ a : Obj, Hid (Below w.heap.size w (w.alloc a)) := fun a => bA
 go_enter Tryz.func29, Tryz.ntmps29
 go_wp2
 go_loopw [1, 5] (fun k i wr => ∃ (j : Nat), j ≤ T.len ∧ i = .int .i64 j ∧ k = .int .i64 (kh S left j) ∧ Below (w.heap.size + 1) (w.alloc (.cells #[.int .i64 tk, .int .i64 tn, .string ts, .slice a T.len cap] 25)) wr) (fun _ i _ => T.len - (intOf i).toNat)
 case atStart => exact ⟨0, by omega, rfl, by unfold kh; rw [h00]; congr 1; split <;> omega, Below.refl _ _⟩
 case round =>
  obtain ⟨j, hj, rfl, rfl, hb⟩ := hrel
  have k_D38_1 := kk
  exact Xy
theorem uG (T : Nd) : zL T := by
 induction T with
 |nil => exact yW _ fun i hi => absurd hi (Nat.not_lt_zero i)
 |mk k n s len kids ih => exact yW _ fun i _ => ih i
theorem Mi (T : Nd) : iK T ∧ eK T ∧ sG T := by
 have step : ∀ T : Nd, (∀ i, i < T.len → iK (T.kids i) ∧ eK (T.kids i) ∧ sG (T.kids i)) → iK T ∧ eK T ∧ sG T := by
  intro T ih
  have hE := Fa T fun i hi => (ih i hi).1
  have hK := Ic T fun i hi => ⟨(ih i hi).1, (ih i hi).2.1⟩
  refine ⟨?_, ?_, Fs T hK⟩
  ·by_cases I0 : T.kind = 22
   ·exact Jc T I0 hE hK
   by_cases By : T.kind = 23
   ·exact Jb T By hE hK
   by_cases IZ : T.kind = 24
   ·exact Ja T IZ hE hK
   by_cases Gi : T.kind = 25
   ·exact I9 T Gi hE hK
   by_cases EZ : T.kind = 26
   ·exact I8 T EZ hE hK
   by_cases IY : T.kind = 27
   ·exact I7 T IY hE hK
   by_cases Ll : T.kind = 28
   ·exact I6 T Ll hE hK
   by_cases Cm : T.kind = 29
   ·exact I5 T Cm hE hK
   exact yb T fun k hk => by
    simp only [List.mem_cons, List.not_mem_nil, or_false] at hk
    rcases hk with rfl | rfl | rfl | rfl | rfl | rfl | rfl | rfl <;> assumption
  ·by_cases h4 : T.kind = 4
   ·exact L4 T h4 fun i hi => (ih i hi).2.1
   by_cases h9 : T.kind = 9
   ·exact LZ T h9 hK
   by_cases sf : T.kind = 15
   ·exact Hp T sf fun i hi => (ih i hi).2.2
   by_cases h5 : T.kind = 5
   ·exact L3 T h5 hE hK
   by_cases h6 : T.kind = 6
   ·exact L2 T h6 hE hK
   by_cases h7 : T.kind = 7
   ·exact L1 T h7 hE hK
   by_cases h8 : T.kind = 8
   ·exact L0 T h8 hE hK
   by_cases si : T.kind = 10
   ·exact Hu T si hE hK
   by_cases mW : T.kind = 11
   ·exact Ht T mW hE hK
   by_cases sh : T.kind = 12
   ·exact Hs T sh hE hK
   by_cases Ql : T.kind = 13
   ·exact Hr T Ql hE hK
   by_cases Qk : T.kind = 14
   ·exact Hq T Qk hE hK
   by_cases qO : T.kind = 17
   ·exact Ho T qO hE hK
   by_cases Lp : T.kind = 18
   ·exact Hn T Lp hE hK
   by_cases Lo : T.kind = 19
   ·exact Hm T Lo hE hK
   by_cases Lm : T.kind = 20
   ·exact Hl T Lm hE hK
   by_cases xS : T.kind = 21
   ·exact Hk T xS hE hK
   exact wM T fun k hk => by
    simp only [List.mem_cons, List.not_mem_nil, or_false] at hk
    rcases hk with rfl | rfl | rfl | rfl | rfl | rfl | rfl | rfl | rfl | rfl | rfl | rfl | rfl | rfl | rfl | rfl | rfl <;> assumption
 induction T with
 |nil => exact step _ fun i hi => absurd hi (Nat.not_lt_zero i)
 |mk k n s len kids ih => exact step _ fun i _ => ih i
theorem rD (T : Nd) (w : World) (v : Value) (hi : Nat) (hf : T.Fine) (dF : hi ≤ w.heap.size) (hr : Row 0 hi w T v) :
  Calls Tryz.prog 17 #[T.val v] w fun e w' => e = .returned (.bool (dv T)) ∧ Below w.heap.size w w' := by
 have hn := T.fine_len hf
 obtain ⟨a, cap, hv, cr, hq⟩ := aH.1 hr
 have HB : ∀ o : Obj, Hid (Below w.heap.size w (w.alloc o)) := fun o => bA
 have HL := aa (fun W (hb : Below w.heap.size w W) => uG T W 600 v hi hf (by have := hb.size; omega) (ah hb dF hr) (by omega))
 have e8 : Hid (dv T = (decide (T.size ≤ 600) && decide (T.kind = 1) && decide (T.num = 0) && ao T.name && aG (fun i => dd (T.kids i)) T.len)) := rfl
 have HI : Hid (∀ i, i < T.len → FZ (T.kids i)) := fun i hi => E4 _ fun j _ => (Mi _).2.1
 have HF := aa hf
 have HR := aa hq
 have wj : Hid (mm T.size 600 = if T.size ≤ 600 then ((600 - T.size : Nat) : Int) else -1) := rfl
 unfold Nd.val at *
 subst hv
 clear hf hr hq cr
 generalize T.kind = tk at *
 generalize T.num = tn at *
 generalize T.name = ts at *
 by_cases hz : T.size ≤ 600
 case neg =>
  have HO : Hid (dv T = false) := by unfold Hid; rw [e8.out]; simp [hz]
  have hl : mm T.size 600 = -1 := by have := wj.out; rw [if_neg hz] at this; exact this
  go_enter Tryz.func17, Tryz.ntmps17
  go_wp2_with (go_at_call 29; refine (HL.out _ (HB _).out).mono ?_; rw [hl]; rintro e w1 ⟨rfl, hb1⟩)
  exact O6
 have hl : mm T.size 600 = ((600 - T.size : Nat) : Int) := by have := wj.out; rw [if_pos hz] at this; exact this
 have IA : ¬ (((600 - T.size : Nat) : Int) < 0) := by omega
 by_cases zm : tk = 1 ∧ tn = 0 ∧ ts.toList.isEmpty = true
 case neg =>
  have HO : Hid (dv T = false) := by
   unfold Hid; rw [e8.out]
   cases h1 : decide (tk = 1)
   ·simp
   cases h2 : decide (tn = 0)
   ·simp
   cases h3 : ts.toList.isEmpty
   ·simp [ao, h3]
   ·exact absurd ⟨of_decide_eq_true h1, of_decide_eq_true h2, h3⟩ zm
  have HG : Hid ((tk != 1) = false → (tn != 0) = false → ts.toList.isEmpty = true → False) := fun h1 h2 h3 => zm ⟨by simpa using h1, by simpa using h2, h3⟩
  clear zm wj e8
  cases h1 : (tk != 1)
  ·cases h2 : (tn != 0)
   ·cases h3 : ts.toList.isEmpty
    ·exact bD8
    ·exact (HG.out h1 h2 h3).elim
   ·exact bD8
  ·exact bD8
 obtain ⟨rfl, rfl, he⟩ := zm
 have HO : Hid (dv T = aG (fun i => dd (T.kids i)) T.len) := by unfold Hid; rw [e8.out]; simp [hz, ao, he]
 clear e8 wj hz
 have k_D42_0 := kk
 exact Xv
end Go.Proofs.YteaocammohcgoaaGreatDoor
