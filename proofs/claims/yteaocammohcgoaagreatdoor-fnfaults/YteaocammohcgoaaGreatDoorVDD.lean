import Derived.Test.YteaocammohcgoaaGreatDoorVDO
set_option linter.unusedVariables false
set_option maxHeartbeats 16000000
set_option maxRecDepth 100000
namespace Go.Proofs.YteaocammohcgoaaGreatDoor
open Go.RowKit
variable {G : Prop}
theorem bX0 (h : G := by
 obtain ⟨g, rfl, _⟩ := id iX
 go_simp
 refine (bU _ _ _ _ _ _ _).mono ?_
 rintro e v2 ⟨rfl, hb⟩
 first
 |clear k_X0_0
  exact b6.out 11 (by omega) v2 hb _ (dD (dk iX hb) (by decide) _ _ _)
 |clear k_X0_1
  exact b6.out 21 (by omega) v2 hb _ (dD (dk iX hb) (by decide) _ _ _)
 |clear k_X0_2
  exact b6.out 29 (by omega) v2 hb _ (dD (dk iX hb) (by decide) _ _ _)
 |clear k_X0_3
  exact b6.out 46 (by omega) v2 hb _ (dD (dk iX hb) (by decide) _ _ _)) : G := h
theorem Co (h : G := by
 obtain ⟨g, rfl, _⟩ := id iX
 go_simp
 refine (aQ _ _ _ _ _ _).mono ?_
 rintro e v2 ⟨rfl, hb⟩
 first
 |clear k_X1_0
  exact b6.out 5 (by omega) v2 hb _ (dD (dk iX hb) (by decide) _ _ _)
 |clear k_X1_1
  exact b6.out 7 (by omega) v2 hb _ (dD (dk iX hb) (by decide) _ _ _)
 |clear k_X1_2
  exact b6.out 9 (by omega) v2 hb _ (dD (dk iX hb) (by decide) _ _ _)
 |clear k_X1_3
  exact b6.out 17 (by omega) v2 hb _ (dD (dk iX hb) (by decide) _ _ _)
 |clear k_X1_4
  exact b6.out 19 (by omega) v2 hb _ (dD (dk iX hb) (by decide) _ _ _)
 |clear k_X1_5
  exact b6.out 25 (by omega) v2 hb _ (dD (dk iX hb) (by decide) _ _ _)
 |clear k_X1_6
  exact b6.out 27 (by omega) v2 hb _ (dD (dk iX hb) (by decide) _ _ _)
 |clear k_X1_7
  exact b6.out 34 (by omega) v2 hb _ (dD (dk iX hb) (by decide) _ _ _)
 |clear k_X1_8
  exact b6.out 36 (by omega) v2 hb _ (dD (dk iX hb) (by decide) _ _ _)
 |clear k_X1_9
  exact b6.out 40 (by omega) v2 hb _ (dD (dk iX hb) (by decide) _ _ _)
 |clear k_X1_10
  exact b6.out 42 (by omega) v2 hb _ (dD (dk iX hb) (by decide) _ _ _)
 |clear k_X1_11
  exact b6.out 44 (by omega) v2 hb _ (dD (dk iX hb) (by decide) _ _ _)) : G := h
def td0 : Nd := aq 3 1 ⟨#[97]⟩
def td1 : Nd := aq 3 1 ⟨#[98]⟩
def td2 : Nd := aq 24 0 ⟨#[97]⟩
def td3 : Nd := aq 24 0 ⟨#[98]⟩
def QV : List Nd := [td2, td3]
def td5 : Nd := .mk 28 0 ⟨#[43]⟩ (QV).length (cE QV)
def QT : List Nd := [td5]
def td7 : Nd := .mk 12 0 ⟨#[]⟩ (QT).length (cE QT)
def QS : List Nd := [td7]
def td9 : Nd := .mk 4 0 ⟨#[]⟩ (QS).length (cE QS)
def C8 : List Nd := [td0, td1, td9]
def Hi : Nd := .mk 2 1 ⟨#[97, 100, 100]⟩ (C8).length (cE C8)
def Hh : Nd := aq 3 3 ⟨#[99]⟩
def Hg : Nd := aq 3 1 ⟨#[97]⟩
def Hf : Nd := aq 24 0 ⟨#[99]⟩
def He : Nd := aq 24 0 ⟨#[97]⟩
def C7 : List Nd := [Hf, He]
def Hd : Nd := .mk 8 0 ⟨#[]⟩ (C7).length (cE C7)
def C6 : List Nd := [Hd]
def Hc : Nd := .mk 4 0 ⟨#[]⟩ (C6).length (cE C6)
def C5 : List Nd := [Hh, Hg, Hc]
def Hb : Nd := .mk 2 0 ⟨#[112, 117, 116]⟩ (C5).length (cE C5)
def Ha : Nd := aq 3 1 ⟨#[97]⟩
def G9 : Nd := aq 24 0 ⟨#[97]⟩
def C4 : List Nd := [G9]
def G8 : Nd := .mk 20 0 ⟨#[]⟩ (C4).length (cE C4)
def C3 : List Nd := [G8]
def G0 : Nd := .mk 4 0 ⟨#[]⟩ (C3).length (cE C3)
def C2 : List Nd := [Ha, G0]
def GZ : Nd := .mk 2 0 ⟨#[115, 104, 111, 119]⟩ (C2).length (cE C2)
def GY : Nd := aq 3 3 ⟨#[99]⟩
def GX : Nd := aq 3 1 ⟨#[97]⟩
def GU : Nd := aq 24 0 ⟨#[99]⟩
def C0 : List Nd := [GU]
def GR : Nd := .mk 29 0 ⟨#[]⟩ (C0).length (cE C0)
def CZ : List Nd := [GR]
def GQ : Nd := .mk 5 0 ⟨#[98]⟩ (CZ).length (cE CZ)
def GP : Nd := aq 24 0 ⟨#[97]⟩
def GO : Nd := aq 24 0 ⟨#[98]⟩
def CY : List Nd := [GP, GO]
def GN : Nd := .mk 28 0 ⟨#[43]⟩ (CY).length (cE CY)
def CX : List Nd := [GN]
def GM : Nd := .mk 20 0 ⟨#[]⟩ (CX).length (cE CX)
def CV : List Nd := [GQ, GM]
def GL : Nd := .mk 4 0 ⟨#[]⟩ (CV).length (cE CV)
def CU : List Nd := [GY, GX, GL]
def GK : Nd := .mk 2 0 ⟨#[119, 111, 114, 107]⟩ (CU).length (cE CU)
def mD : List Nd := [Hi, Hb, GZ, GK]
def QU : List Nd := mD
def tbl : List Ty := [.nd td0, .nd td1, .nd td2, .nd td3, .rw QV, .nd td5, .rw QT, .nd td7, .rw QS, .nd td9, .rw C8, .nd Hi, .nd Hh, .nd Hg, .nd Hf, .nd He, .rw C7, .nd Hd, .rw C6, .nd Hc, .rw C5, .nd Hb, .nd Ha, .nd G9, .rw C4, .nd G8, .rw C3, .nd G0, .rw C2, .nd GZ, .nd GY, .nd GX, .nd GU, .rw C0, .nd GR, .rw CZ, .nd GQ, .nd GP, .nd GO, .rw CY, .nd GN, .rw CX, .nd GM, .rw CV, .nd GL, .rw CU, .nd GK, .rw mD, .rw QU]
def dsts : List Nat := [7, 8, 9, 10, 11, 12, 13, 14, 15, 16, 17, 18, 19, 20, 21, 22, 23, 24, 25, 26, 27, 28, 29, 30, 31, 32, 33, 34, 35, 36, 37, 38, 39, 40, 41, 42, 43, 44, 45, 46, 47, 48, 49, 50, 51, 52, 53, 54, 0]
def BV (B : Nat) (i : Nat) (w : World) (v : Value) : Prop := match tbl[i]? with | some t => t.holds B w v | none => True
theorem Ku {B : Nat} {w w' : World} (hb : Below w.heap.size w w') (i : Nat) (v : Value) (h : BV B i w v) : BV B i w' v := by
 unfold BV at *
 split
 ·rename_i t e; rw [e] at h; exact Ty.calm h hb
 ·trivial
theorem Pb (l : Array Value) (h : l.size = 55) : l = ((List.range 55).map fun i => l.getD i undef).toArray := by
 apply Array.ext
 ·simp [h]
 ·intro i h1 h2
  simp [Array.getD_eq_getD_getElem?, h1]
theorem Ly (l : Array Value) (h : l.size = 55) : ∃ x0 x1 x2 x3 x4 x5 x6 x7 x8 x9 Kz tQ iR x13 x14 x15 x16 x17 x18 x19 x20 x21 x22 x23 x24 x25 x26 x27 x28 x29 x30 x31 x32 x33 x34 x35 x36 x37 x38 x39 x40 x41 x42 x43 x44 x45 x46 x47 x48 x49 x50 x51 x52 x53 x54, l = #[x0, x1, x2, x3, x4, x5, x6, x7, x8, x9, Kz, tQ, iR, x13, x14, x15, x16, x17, x18, x19, x20, x21, x22, x23, x24, x25, x26, x27, x28, x29, x30, x31, x32, x33, x34, x35, x36, x37, x38, x39, x40, x41, x42, x43, x44, x45, x46, x47, x48, x49, x50, x51, x52, x53, x54] := ⟨_, _, _, _, _, _, _, _, _, _, _, _, _, _, _, _, _, _, _, _, _, _, _, _, _, _, _, _, _, _, _, _, _, _, _, _, _, _, _, _, _, _, _, _, _, _, _, _, _, _, _, _, _, _, _, Pb l h⟩
def mj (i : Nat) : Nat := dsts.getD i 100
theorem Dn : ((List.range 49).all fun i => (List.range 49).all fun j => mj i != mj j || i == j) = true := by kernel_rfl
theorem Dm (i j : Nat) (hi : i < 49) (hj : j < 49) (h : mj i = mj j) : i = j := by
 have := List.all_eq_true.1 (List.all_eq_true.1 Dn i (List.mem_range.2 hi)) j (List.mem_range.2 hj)
 simpa [h] using this
theorem ui : ((List.range 49).all fun i => decide (mj i < 55) && (mj i == 0 || decide (6 < mj i))) = true := by kernel_rfl
theorem Hv (i : Nat) (hi : i < 49) : mj i < 55 := by
 have := List.all_eq_true.1 ui i (List.mem_range.2 hi)
 simp only [Bool.and_eq_true, decide_eq_true_eq] at this
 exact this.1
theorem sO (t : Nat) (ht : 0 < t ∧ t < 7) (i : Nat) (hi : i < 49) : t ≠ mj i := by
 have := List.all_eq_true.1 ui i (List.mem_range.2 hi)
 simp only [Bool.and_eq_true, decide_eq_true_eq, Bool.or_eq_true, beq_iff_eq] at this
 omega
theorem BB {l : Array Bool} {j : Nat} (h : l.getD j false = true) : l.getD j true = true := by
 rw [Array.getD_eq_getD_getElem?] at *
 cases e : l[j]? with
 |none => rw [e] at h; simp at h
 |some b => rw [e] at h; simpa using h
theorem qv (w : World) : Calls Tryz.prog 32 #[] w fun e w' => ∃ v, e = .returned v ∧ ng w.heap.size mD w' v ∧ Below w.heap.size w w' := by
 have bH := jK
 go_enter Tryz.func32, Tryz.ntmps32
 go_wp2_with fail
 refine (aQ _ _ _ _ _ _).mono ?_
 rintro e w1 ⟨rfl, hb1⟩
 have eT := hb1.size
 go_wp2_with fail
 refine (aQ _ _ _ _ _ _).mono ?_
 rintro e w2 ⟨rfl, ba⟩
 have ed := ba.size
 simp only [World.size_alloc] at ed
 have B2 := aa ((hb1.alloc eT _).trans (ba.mono (by simp; omega)))
 have N2 := aa (bE (heap_alloc_new w1 _) ba)
 clear hb1 ba
 go_wp2_with fail
 refine (aQ _ _ _ _ _ _).mono ?_
 rintro e w3 ⟨rfl, cZ⟩
 have Cd := cZ.size
 simp only [World.size_alloc] at Cd
 have B3 := aa ((B2.out.alloc (by omega) _).trans (cZ.mono (by simp; omega)))
 have N3 := aa (bE ((Below.heap_alloc w2 _ _ (by omega)).trans N2.out) cZ)
 have M3 := aa (bE (heap_alloc_new w2 _) cZ)
 clear cZ B2 N2
 go_wp2_with fail
 have BW := aa (B3.out.alloc (by omega) (.cells #[.int .i64 24, .int .i64 0, .string ⟨#[99]⟩, .slice none 0 0] 25))
 have NW := aa ((Below.heap_alloc w3 (.cells #[.int .i64 24, .int .i64 0, .string ⟨#[99]⟩, .slice none 0 0] 25) _ (by omega)).trans N3.out)
 have MW := aa ((Below.heap_alloc w3 (.cells #[.int .i64 24, .int .i64 0, .string ⟨#[99]⟩, .slice none 0 0] 25) _ (by omega)).trans M3.out)
 have CW := aa (heap_alloc_new w3 (.cells #[.int .i64 24, .int .i64 0, .string ⟨#[99]⟩, .slice none 0 0] 25))
 have hzW : w3.heap.size + 1 ≤ (w3.alloc (.cells #[.int .i64 24, .int .i64 0, .string ⟨#[99]⟩, .slice none 0 0] 25)).heap.size := by simp
 revert BW NW MW CW hzW
 generalize w3.alloc (.cells #[.int .i64 24, .int .i64 0, .string ⟨#[99]⟩, .slice none 0 0] 25) = W
 intro BW NW MW CW hzW
 clear B3 N3 M3
 refine fL bH (by kernel_rfl) mj (BV w.heap.size) (fun _ v => Below W.heap.size W v) ((Below.refl _ _).drew) ?_ ?_
 ·intro listed a v i hI hr
  have hi : i < 49 := (bj hr).1
  have hS := hI.s
  have vk : w.heap.size ≤ v.heap.size := by have h1 := hS.size; have h2 := BW.out.size; omega
  have b6 := aa (fun (i : Nat) (hi : i < 49) (v' : World) (hb : Below v.heap.size v v') (x : Value) (hx : BV w.heap.size i v' x) => hI.put Dm (fun i hi => Hv i hi) (Ku hb) (hS.trans (hb.mono hS.size)) hi hx)
  have bC := aa (fun (j : Nat) (hj : j < 49) (hl : listed.getD j false = true) => hI.vals j hj (BB hl))
  have bc := fG hr
  obtain ⟨na0, na1, na2, na3, _⟩ := ax (bE NW.out hS)
  obtain ⟨nb0, nb1, nb2, nb3, _⟩ := ax (bE MW.out hS)
  obtain ⟨nc0, nc1, nc2, nc3, _⟩ := ax (bE CW.out hS)
  have e1 := hI.keep 1 (by intro i hi; exact sO 1 (by decide) i hi)
  have e2 := hI.keep 2 (by intro i hi; exact sO 2 (by decide) i hi)
  have e3 := hI.keep 3 (by intro i hi; exact sO 3 (by decide) i hi)
  have Ss : a.tmps.size = 55 := hI.size
  have jv : a.defers = [] := hI.defers
  clear hI hr
  obtain ⟨tm, df⟩ := a
  obtain ⟨x0, x1, x2, x3, x4, x5, x6, x7, x8, x9, Kz, tQ, iR, x13, x14, x15, x16, x17, x18, x19, x20, x21, x22, x23, x24, x25, x26, x27, x28, x29, x30, x31, x32, x33, x34, x35, x36, x37, x38, x39, x40, x41, x42, x43, x44, x45, x46, x47, x48, x49, x50, x51, x52, x53, x54, rfl⟩ := Ly tm Ss
  obtain rfl : df = [] := jv
  obtain rfl : x1 = .pointer (some ⟨w1.heap.size, 0, none⟩) := e1
  obtain rfl : x2 = .pointer (some ⟨w2.heap.size, 0, none⟩) := e2
  obtain rfl : x3 = .pointer (some ⟨w3.heap.size, 0, none⟩) := e3
  rcases (by omega : i = 0 ∨ i = 1 ∨ i = 2 ∨ i = 3 ∨ i = 4 ∨ i = 5 ∨ i = 6 ∨ i = 7 ∨ i = 8 ∨ i = 9 ∨ i = 10 ∨ i = 11 ∨ i = 12 ∨ i = 13 ∨ i = 14 ∨ i = 15 ∨ i = 16 ∨ i = 17 ∨ i = 18 ∨ i = 19 ∨ i = 20 ∨ i = 21 ∨ i = 22 ∨ i = 23 ∨ i = 24 ∨ i = 25 ∨ i = 26 ∨ i = 27 ∨ i = 28 ∨ i = 29 ∨ i = 30 ∨ i = 31 ∨ i = 32 ∨ i = 33 ∨ i = 34 ∨ i = 35 ∨ i = 36 ∨ i = 37 ∨ i = 38 ∨ i = 39 ∨ i = 40 ∨ i = 41 ∨ i = 42 ∨ i = 43 ∨ i = 44 ∨ i = 45 ∨ i = 46 ∨ i = 47 ∨ i = 48) with rfl | rfl | rfl | rfl | rfl | rfl | rfl | rfl | rfl | rfl | rfl | rfl | rfl | rfl | rfl | rfl | rfl | rfl | rfl | rfl | rfl | rfl | rfl | rfl | rfl | rfl | rfl | rfl | rfl | rfl | rfl | rfl | rfl | rfl | rfl | rfl | rfl | rfl | rfl | rfl | rfl | rfl | rfl | rfl | rfl | rfl | rfl | rfl | rfl
  all_goals (refine cS rfl rfl ?_)
  ·go_simp
   refine (gY _ _ _).mono ?_
   rintro e v2 ⟨rfl, hb⟩
   exact b6.out 0 (by omega) v2 hb _ (dN _ _ _ _ _)
  ·go_simp
   refine (gY _ _ _).mono ?_
   rintro e v2 ⟨rfl, hb⟩
   exact b6.out 1 (by omega) v2 hb _ (dN _ _ _ _ _)
  ·go_simp
   exact b6.out 2 (by omega) v (Below.refl _ _) _ (dN _ _ _ _ _)
  ·go_simp
   exact b6.out 3 (by omega) v (Below.refl _ _) _ (dN _ _ _ _ _)
  ·skip
   obtain ⟨p2, y2, rfl, r2⟩ : kR w.heap.size td2 v x9 := ag bC bc 2 rfl
   obtain ⟨p3, y3, rfl, r3⟩ : kR w.heap.size td3 v Kz := ag bC bc 3 rfl
   unfold Nd.val at *
   go_simp
   exact b6.out 4 (by omega) _ (bA) _ (um vk r2 r3)
  ·have iX : ng w.heap.size QV v tQ := ag bC bc 4 rfl
   have k_X1_0 := kk
   exact Co
  ·skip
   obtain ⟨p5, y5, rfl, r5⟩ : kR w.heap.size td5 v iR := ag bC bc 5 rfl
   unfold Nd.val at *
   go_simp
   exact b6.out 6 (by omega) _ (bA) _ (oy vk r5)
  ·have iX : ng w.heap.size QT v x13 := ag bC bc 6 rfl
   have k_X1_1 := kk
   exact Co
  ·skip
   obtain ⟨p7, y7, rfl, r7⟩ : kR w.heap.size td7 v x14 := ag bC bc 7 rfl
   unfold Nd.val at *
   go_simp
   exact b6.out 8 (by omega) _ (bA) _ (oy vk r7)
  ·have iX : ng w.heap.size QS v x15 := ag bC bc 8 rfl
   have k_X1_2 := kk
   exact Co
  ·skip
   obtain ⟨p0, y0, rfl, r0⟩ : kR w.heap.size td0 v x7 := ag bC bc 0 rfl
   obtain ⟨p1, y1, rfl, r1⟩ : kR w.heap.size td1 v x8 := ag bC bc 1 rfl
   obtain ⟨p9, y9, rfl, r9⟩ : kR w.heap.size td9 v x16 := ag bC bc 9 rfl
   unfold Nd.val at *
   go_simp
   exact b6.out 10 (by omega) _ (bA) _ (Dx vk r0 r1 r9)
  ·have iX : ng w.heap.size C8 v x17 := ag bC bc 10 rfl
   have k_X0_0 := kk
   exact bX0
  ·go_simp
   refine (gY _ _ _).mono ?_
   rintro e v2 ⟨rfl, hb⟩
   exact b6.out 12 (by omega) v2 hb _ (dN _ _ _ _ _)
  ·go_simp
   refine (gY _ _ _).mono ?_
   rintro e v2 ⟨rfl, hb⟩
   exact b6.out 13 (by omega) v2 hb _ (dN _ _ _ _ _)
  ·go_simp
   exact b6.out 14 (by omega) v (Below.refl _ _) _ (dN _ _ _ _ _)
  ·go_simp
   exact b6.out 15 (by omega) v (Below.refl _ _) _ (dN _ _ _ _ _)
  ·skip
   obtain ⟨p14, y14, rfl, r14⟩ : kR w.heap.size Hf v x21 := ag bC bc 14 rfl
   obtain ⟨p15, y15, rfl, r15⟩ : kR w.heap.size He v x22 := ag bC bc 15 rfl
   unfold Nd.val at *
   go_simp
   exact b6.out 16 (by omega) _ (bA) _ (um vk r14 r15)
  ·have iX : ng w.heap.size C7 v x23 := ag bC bc 16 rfl
   have k_X1_3 := kk
   exact Co
  ·skip
   obtain ⟨p17, y17, rfl, r17⟩ : kR w.heap.size Hd v x24 := ag bC bc 17 rfl
   unfold Nd.val at *
   go_simp
   exact b6.out 18 (by omega) _ (bA) _ (oy vk r17)
  ·have iX : ng w.heap.size C6 v x25 := ag bC bc 18 rfl
   have k_X1_4 := kk
   exact Co
  ·skip
   obtain ⟨p12, y12, rfl, r12⟩ : kR w.heap.size Hh v x19 := ag bC bc 12 rfl
   obtain ⟨p13, y13, rfl, r13⟩ : kR w.heap.size Hg v x20 := ag bC bc 13 rfl
   obtain ⟨p19, y19, rfl, r19⟩ : kR w.heap.size Hc v x26 := ag bC bc 19 rfl
   unfold Nd.val at *
   go_simp
   exact b6.out 20 (by omega) _ (bA) _ (Dx vk r12 r13 r19)
  ·have iX : ng w.heap.size C5 v x27 := ag bC bc 20 rfl
   have k_X0_1 := kk
   exact bX0
  ·go_simp
   refine (gY _ _ _).mono ?_
   rintro e v2 ⟨rfl, hb⟩
   exact b6.out 22 (by omega) v2 hb _ (dN _ _ _ _ _)
  ·go_simp
   exact b6.out 23 (by omega) v (Below.refl _ _) _ (dN _ _ _ _ _)
  ·skip
   obtain ⟨p23, y23, rfl, r23⟩ : kR w.heap.size G9 v x30 := ag bC bc 23 rfl
   unfold Nd.val at *
   go_simp
   exact b6.out 24 (by omega) _ (bA) _ (oy vk r23)
  ·have iX : ng w.heap.size C4 v x31 := ag bC bc 24 rfl
   have k_X1_5 := kk
   exact Co
  ·skip
   obtain ⟨p25, y25, rfl, r25⟩ : kR w.heap.size G8 v x32 := ag bC bc 25 rfl
   unfold Nd.val at *
   go_simp
   exact b6.out 26 (by omega) _ (bA) _ (oy vk r25)
  ·have iX : ng w.heap.size C3 v x33 := ag bC bc 26 rfl
   have k_X1_6 := kk
   exact Co
  ·skip
   obtain ⟨p22, y22, rfl, r22⟩ : kR w.heap.size Ha v x29 := ag bC bc 22 rfl
   obtain ⟨p27, y27, rfl, r27⟩ : kR w.heap.size G0 v x34 := ag bC bc 27 rfl
   unfold Nd.val at *
   go_simp
   exact b6.out 28 (by omega) _ (bA) _ (um vk r22 r27)
  ·have iX : ng w.heap.size C2 v x35 := ag bC bc 28 rfl
   have k_X0_2 := kk
   exact bX0
  ·go_simp
   refine (gY _ _ _).mono ?_
   rintro e v2 ⟨rfl, hb⟩
   exact b6.out 30 (by omega) v2 hb _ (dN _ _ _ _ _)
  ·go_simp
   refine (gY _ _ _).mono ?_
   rintro e v2 ⟨rfl, hb⟩
   exact b6.out 31 (by omega) v2 hb _ (dN _ _ _ _ _)
  ·go_simp
   exact b6.out 32 (by omega) v (Below.refl _ _) _ (dN _ _ _ _ _)
  ·skip
   obtain ⟨p32, y32, rfl, r32⟩ : kR w.heap.size GU v x39 := ag bC bc 32 rfl
   unfold Nd.val at *
   go_simp
   exact b6.out 33 (by omega) _ (bA) _ (oy vk r32)
  ·have iX : ng w.heap.size C0 v x40 := ag bC bc 33 rfl
   have k_X1_7 := kk
   exact Co
  ·skip
   obtain ⟨p34, y34, rfl, r34⟩ : kR w.heap.size GR v x41 := ag bC bc 34 rfl
   unfold Nd.val at *
   go_simp
   exact b6.out 35 (by omega) _ (bA) _ (oy vk r34)
  ·have iX : ng w.heap.size CZ v x42 := ag bC bc 35 rfl
   have k_X1_8 := kk
   exact Co
  ·go_simp
   exact b6.out 37 (by omega) v (Below.refl _ _) _ (dN _ _ _ _ _)
  ·go_simp
   exact b6.out 38 (by omega) v (Below.refl _ _) _ (dN _ _ _ _ _)
  ·skip
   obtain ⟨p37, y37, rfl, r37⟩ : kR w.heap.size GP v x44 := ag bC bc 37 rfl
   obtain ⟨p38, y38, rfl, r38⟩ : kR w.heap.size GO v x45 := ag bC bc 38 rfl
   unfold Nd.val at *
   go_simp
   exact b6.out 39 (by omega) _ (bA) _ (um vk r37 r38)
  ·have iX : ng w.heap.size CY v x46 := ag bC bc 39 rfl
   have k_X1_9 := kk
   exact Co
  ·skip
   obtain ⟨p40, y40, rfl, r40⟩ : kR w.heap.size GN v x47 := ag bC bc 40 rfl
   unfold Nd.val at *
   go_simp
   exact b6.out 41 (by omega) _ (bA) _ (oy vk r40)
  ·have iX : ng w.heap.size CX v x48 := ag bC bc 41 rfl
   have k_X1_10 := kk
   exact Co
  ·skip
   obtain ⟨p36, y36, rfl, r36⟩ : kR w.heap.size GQ v x43 := ag bC bc 36 rfl
   obtain ⟨p42, y42, rfl, r42⟩ : kR w.heap.size GM v x49 := ag bC bc 42 rfl
   unfold Nd.val at *
   go_simp
   exact b6.out 43 (by omega) _ (bA) _ (um vk r36 r42)
  ·have iX : ng w.heap.size CV v x50 := ag bC bc 43 rfl
   have k_X1_11 := kk
   exact Co
  ·skip
   obtain ⟨p30, y30, rfl, r30⟩ : kR w.heap.size GY v x37 := ag bC bc 30 rfl
   obtain ⟨p31, y31, rfl, r31⟩ : kR w.heap.size GX v x38 := ag bC bc 31 rfl
   obtain ⟨p44, y44, rfl, r44⟩ : kR w.heap.size GL v x51 := ag bC bc 44 rfl
   unfold Nd.val at *
   go_simp
   exact b6.out 45 (by omega) _ (bA) _ (Dx vk r30 r31 r44)
  ·have iX : ng w.heap.size CU v x52 := ag bC bc 45 rfl
   have k_X0_3 := kk
   exact bX0
  ·skip
   obtain ⟨p11, y11, rfl, r11⟩ : kR w.heap.size Hi v x18 := ag bC bc 11 rfl
   obtain ⟨p21, y21, rfl, r21⟩ : kR w.heap.size Hb v x28 := ag bC bc 21 rfl
   obtain ⟨p29, y29, rfl, r29⟩ : kR w.heap.size GZ v x36 := ag bC bc 29 rfl
   obtain ⟨p46, y46, rfl, r46⟩ : kR w.heap.size GK v x53 := ag bC bc 46 rfl
   unfold Nd.val at *
   go_simp
   exact b6.out 47 (by omega) _ (bA) _ (Q8 vk r11 r21 r29 r46)
  ·have iX : ng w.heap.size mD v x54 := ag bC bc 47 rfl
   go_simp
   exact b6.out 48 (by omega) v (Below.refl _ _) _ iX
 ·intro a v b8 jv cz mr ee
  obtain ⟨_, _, hS, _⟩ := mr
  have iX : ng w.heap.size QU v (a.eval (.tmp 0)) := ee 48 (by show 48 < 49; omega)
  have HB := aa (BW.out.trans (hS.mono BW.out.size))
  obtain ⟨tm, df⟩ := a
  obtain ⟨x0, x1, x2, x3, x4, x5, x6, x7, x8, x9, Kz, tQ, iR, x13, x14, x15, x16, x17, x18, x19, x20, x21, x22, x23, x24, x25, x26, x27, x28, x29, x30, x31, x32, x33, x34, x35, x36, x37, x38, x39, x40, x41, x42, x43, x44, x45, x46, x47, x48, x49, x50, x51, x52, x53, x54, rfl⟩ := Ly tm b8
  obtain rfl : df = [] := jv
  have Pr : Hid (ng w.heap.size mD v x0) := iX
  clear ee cz iX b8 hS
  obtain ⟨g, hg, _⟩ := id Pr.out
  go_wp2
  go_ret
  exact ⟨_, rfl, Pr.out, HB.out⟩
section
open Go Go.RowKit
def kx : List Nd → Prop
 |[] => True
 |T :: l => T.Fine ∧ kx l
theorem zI : ∀ {Ts : List Nd} {i : Nat}, kx Ts → i < Ts.length → (cE Ts i).Fine
 |[], _, _, hi => absurd hi (Nat.not_lt_zero _)
 |T :: l, 0, h, _ => h.1
 |T :: l, i + 1, h, hi => zI (Ts := l) h.2 (by simpa using hi)
theorem eC {k n : Int} {s : ByteArray} {Ts : List Nd} (hk : -9223372036854775808 ≤ k ∧ k ≤ 9223372036854775807) (hn : -9223372036854775808 ≤ n ∧ n ≤ 9223372036854775807) (hs : s.size ≤ 9223372036854775807) (hl : Ts.length ≤ 1000) (h : kx Ts) : (Nd.mk k n s Ts.length (cE Ts)).Fine :=
 ⟨hk, hn, hs, by omega, fun i hi => zI h hi⟩
theorem Df : td0.Fine := aJ (by omega) (by omega) (by decide)
theorem De : td1.Fine := aJ (by omega) (by omega) (by decide)
theorem Dd : td2.Fine := aJ (by omega) (by omega) (by decide)
theorem Dc : td3.Fine := aJ (by omega) (by omega) (by decide)
theorem CT : kx QV := ⟨Dd, Dc, trivial⟩
theorem Db : td5.Fine := eC (by omega) (by omega) (by decide) (by decide) CT
theorem CQ : kx QT := ⟨Db, trivial⟩
theorem Da : td7.Fine := eC (by omega) (by omega) (by decide) (by decide) CQ
theorem CP : kx QS := ⟨Da, trivial⟩
theorem C9 : td9.Fine := eC (by omega) (by omega) (by decide) (by decide) CP
theorem Ah : kx C8 := ⟨Df, De, C9, trivial⟩
theorem AG : Hi.Fine := eC (by omega) (by omega) (by decide) (by decide) Ah
theorem AF : Hh.Fine := aJ (by omega) (by omega) (by decide)
theorem AE : Hg.Fine := aJ (by omega) (by omega) (by decide)
theorem AD : Hf.Fine := aJ (by omega) (by omega) (by decide)
theorem AC : He.Fine := aJ (by omega) (by omega) (by decide)
theorem Ag : kx C7 := ⟨AD, AC, trivial⟩
theorem AB : Hd.Fine := eC (by omega) (by omega) (by decide) (by decide) Ag
theorem Af : kx C6 := ⟨AB, trivial⟩
theorem AA : Hc.Fine := eC (by omega) (by omega) (by decide) (by decide) Af
theorem Ae : kx C5 := ⟨AF, AE, AA, trivial⟩
theorem Az : Hb.Fine := eC (by omega) (by omega) (by decide) (by decide) Ae
theorem Ay : Ha.Fine := aJ (by omega) (by omega) (by decide)
theorem Ax : G9.Fine := aJ (by omega) (by omega) (by decide)
theorem Ad : kx C4 := ⟨Ax, trivial⟩
theorem Aw : G8.Fine := eC (by omega) (by omega) (by decide) (by decide) Ad
theorem Ac : kx C3 := ⟨Aw, trivial⟩
theorem Av : G0.Fine := eC (by omega) (by omega) (by decide) (by decide) Ac
theorem Ab : kx C2 := ⟨Ay, Av, trivial⟩
theorem Au : GZ.Fine := eC (by omega) (by omega) (by decide) (by decide) Ab
theorem At : GY.Fine := aJ (by omega) (by omega) (by decide)
theorem As : GX.Fine := aJ (by omega) (by omega) (by decide)
theorem Ar : GU.Fine := aJ (by omega) (by omega) (by decide)
theorem Aa : kx C0 := ⟨Ar, trivial⟩
theorem Aq : GR.Fine := eC (by omega) (by omega) (by decide) (by decide) Aa
theorem z6 : kx CZ := ⟨Aq, trivial⟩
theorem Ao : GQ.Fine := eC (by omega) (by omega) (by decide) (by decide) z6
theorem An : GP.Fine := aJ (by omega) (by omega) (by decide)
theorem Am : GO.Fine := aJ (by omega) (by omega) (by decide)
theorem zZ : kx CY := ⟨An, Am, trivial⟩
theorem Al : GN.Fine := eC (by omega) (by omega) (by decide) (by decide) zZ
theorem zY : kx CX := ⟨Al, trivial⟩
theorem Ak : GM.Fine := eC (by omega) (by omega) (by decide) (by decide) zY
theorem zX : kx CV := ⟨Ao, Ak, trivial⟩
theorem Aj : GL.Fine := eC (by omega) (by omega) (by decide) (by decide) zX
theorem zW : kx CU := ⟨At, As, Aj, trivial⟩
theorem Ai : GK.Fine := eC (by omega) (by omega) (by decide) (by decide) zW
theorem vD (i : Nat) (h : i < 4) : (cE mD i).Fine ∧ dd (cE mD i) = true := by
 rcases (by omega : i = 0 ∨ i = 1 ∨ i = 2 ∨ i = 3) with rfl | rfl | rfl | rfl
 ·exact ⟨AG, by kernel_rfl⟩
 ·exact ⟨Az, by kernel_rfl⟩
 ·exact ⟨Au, by kernel_rfl⟩
 ·exact ⟨Ai, by kernel_rfl⟩
theorem Fw : ar (fun i => (cE mD i).cost) 4 ≤ 1000 := by decide
end
end Go.Proofs.YteaocammohcgoaaGreatDoor
