import Derived.Test.YtkfbbdhidecefaaDoorUDC
set_option linter.unusedVariables false
set_option maxHeartbeats 16000000
set_option maxRecDepth 100000
namespace Go.Proofs.YtkfbbdhidecefaaDoor
open Go.RowKit
def td0 : Nd := al 3 1 ⟨#[97]⟩
def td1 : Nd := al 3 1 ⟨#[98]⟩
def td2 : Nd := al 24 0 ⟨#[97]⟩
def td3 : Nd := al 24 0 ⟨#[98]⟩
def QL : List Nd := [td2, td3]
def td5 : Nd := .mk 28 0 ⟨#[43]⟩ (QL).length (cE QL)
def QJ : List Nd := [td5]
def td7 : Nd := .mk 12 0 ⟨#[]⟩ (QJ).length (cE QJ)
def QI : List Nd := [td7]
def td9 : Nd := .mk 4 0 ⟨#[]⟩ (QI).length (cE QI)
def FC : List Nd := [td0, td1, td9]
def JK : Nd := .mk 2 1 ⟨#[97, 100, 100]⟩ (FC).length (cE FC)
def JJ : Nd := al 3 3 ⟨#[99]⟩
def JI : Nd := al 3 1 ⟨#[97]⟩
def JH : Nd := al 24 0 ⟨#[99]⟩
def JG : Nd := al 24 0 ⟨#[97]⟩
def FB : List Nd := [JH, JG]
def JF : Nd := .mk 8 0 ⟨#[]⟩ (FB).length (cE FB)
def FA : List Nd := [JF]
def JE : Nd := .mk 4 0 ⟨#[]⟩ (FA).length (cE FA)
def Fz : List Nd := [JJ, JI, JE]
def JD : Nd := .mk 2 0 ⟨#[112, 117, 116]⟩ (Fz).length (cE Fz)
def JC : Nd := al 3 1 ⟨#[97]⟩
def JB : Nd := al 24 0 ⟨#[97]⟩
def Fy : List Nd := [JB]
def JA : Nd := .mk 20 0 ⟨#[]⟩ (Fy).length (cE Fy)
def Fx : List Nd := [JA]
def Jz : Nd := .mk 4 0 ⟨#[]⟩ (Fx).length (cE Fx)
def Fw : List Nd := [JC, Jz]
def Jy : Nd := .mk 2 0 ⟨#[115, 104, 111, 119]⟩ (Fw).length (cE Fw)
def Jw : Nd := al 3 3 ⟨#[99]⟩
def Jv : Nd := al 3 1 ⟨#[97]⟩
def Ju : Nd := al 24 0 ⟨#[99]⟩
def Fv : List Nd := [Ju]
def Jt : Nd := .mk 29 0 ⟨#[]⟩ (Fv).length (cE Fv)
def Fu : List Nd := [Jt]
def Js : Nd := .mk 5 0 ⟨#[98]⟩ (Fu).length (cE Fu)
def Jr : Nd := al 24 0 ⟨#[97]⟩
def Jq : Nd := al 24 0 ⟨#[98]⟩
def Ft : List Nd := [Jr, Jq]
def Jp : Nd := .mk 28 0 ⟨#[43]⟩ (Ft).length (cE Ft)
def Fs : List Nd := [Jp]
def Jo : Nd := .mk 20 0 ⟨#[]⟩ (Fs).length (cE Fs)
def Fq : List Nd := [Js, Jo]
def Jn : Nd := .mk 4 0 ⟨#[]⟩ (Fq).length (cE Fq)
def Fp : List Nd := [Jw, Jv, Jn]
def Jm : Nd := .mk 2 0 ⟨#[119, 111, 114, 107]⟩ (Fp).length (cE Fp)
def qF : List Nd := [JK, JD, Jy, Jm]
def QK : List Nd := qF
def tbl : List Ty := [.nd td0, .nd td1, .nd td2, .nd td3, .rw QL, .nd td5, .rw QJ, .nd td7, .rw QI, .nd td9, .rw FC, .nd JK, .nd JJ, .nd JI, .nd JH, .nd JG, .rw FB, .nd JF, .rw FA, .nd JE, .rw Fz, .nd JD, .nd JC, .nd JB, .rw Fy, .nd JA, .rw Fx, .nd Jz, .rw Fw, .nd Jy, .nd Jw, .nd Jv, .nd Ju, .rw Fv, .nd Jt, .rw Fu, .nd Js, .nd Jr, .nd Jq, .rw Ft, .nd Jp, .rw Fs, .nd Jo, .rw Fq, .nd Jn, .rw Fp, .nd Jm, .rw qF, .rw QK]
def dsts : List Nat := [7, 8, 9, 10, 11, 12, 13, 14, 15, 16, 17, 18, 19, 20, 21, 22, 23, 24, 25, 26, 27, 28, 29, 30, 31, 32, 33, 34, 35, 36, 37, 38, 39, 40, 41, 42, 43, 44, 45, 46, 47, 48, 49, 50, 51, 52, 53, 54, 0]
def BV (B : Nat) (i : Nat) (w : World) (v : Value) : Prop := match tbl[i]? with | some t => t.holds B w v | none => True
theorem LU {B : Nat} {w w' : World} (hb : Below w.heap.size w w') (i : Nat) (v : Value) (h : BV B i w v) : BV B i w' v := by
 unfold BV at *
 split
 ·rename_i t e; rw [e] at h; exact Ty.calm h hb
 ·trivial
theorem Pf (l : Array Value) (h : l.size = 55) : l = ((List.range 55).map fun i => l.getD i undef).toArray := by
 apply Array.ext
 ·simp [h]
 ·intro i h1 h2
  simp [Array.getD_eq_getD_getElem?, h1]
theorem MX (l : Array Value) (h : l.size = 55) : ∃ x0 x1 x2 x3 x4 x5 x6 x7 x8 x9 x10 x11 x12 x13 x14 x15 x16 x17 x18 x19 x20 x21 x22 x23 x24 x25 x26 x27 x28 x29 x30 x31 x32 x33 x34 x35 x36 x37 x38 x39 x40 x41 x42 x43 x44 x45 x46 x47 x48 x49 x50 x51 x52 x53 x54, l = #[x0, x1, x2, x3, x4, x5, x6, x7, x8, x9, x10, x11, x12, x13, x14, x15, x16, x17, x18, x19, x20, x21, x22, x23, x24, x25, x26, x27, x28, x29, x30, x31, x32, x33, x34, x35, x36, x37, x38, x39, x40, x41, x42, x43, x44, x45, x46, x47, x48, x49, x50, x51, x52, x53, x54] := ⟨_, _, _, _, _, _, _, _, _, _, _, _, _, _, _, _, _, _, _, _, _, _, _, _, _, _, _, _, _, _, _, _, _, _, _, _, _, _, _, _, _, _, _, _, _, _, _, _, _, _, _, _, _, _, _, Pf l h⟩
def qs (i : Nat) : Nat := dsts.getD i 100
theorem FY : ((List.range 49).all fun i => (List.range 49).all fun j => qs i != qs j || i == j) = true := by kernel_rfl
theorem FX (i j : Nat) (hi : i < 49) (hj : j < 49) (h : qs i = qs j) : i = j := by
 have := List.all_eq_true.1 (List.all_eq_true.1 FY i (List.mem_range.2 hi)) j (List.mem_range.2 hj)
 simpa [h] using this
theorem y8 : ((List.range 49).all fun i => decide (qs i < 55) && (qs i == 0 || decide (6 < qs i))) = true := by kernel_rfl
theorem J1 (i : Nat) (hi : i < 49) : qs i < 55 := by
 have := List.all_eq_true.1 y8 i (List.mem_range.2 hi)
 simp only [Bool.and_eq_true, decide_eq_true_eq] at this
 exact this.1
theorem xT (t : Nat) (ht : 0 < t ∧ t < 7) (i : Nat) (hi : i < 49) : t ≠ qs i := by
 have := List.all_eq_true.1 y8 i (List.mem_range.2 hi)
 simp only [Bool.and_eq_true, decide_eq_true_eq, Bool.or_eq_true, beq_iff_eq] at this
 omega
theorem Em {l : Array Bool} {j : Nat} (h : l.getD j false = true) : l.getD j true = true := by
 rw [Array.getD_eq_getD_getElem?] at *
 cases e : l[j]? with
 |none => rw [e] at h; simp at h
 |some b => rw [e] at h; simpa using h
theorem vz (w : World) : Calls Tryd.prog 26 #[] w fun e w' => ∃ v, e = .returned v ∧ ru w.heap.size qF w' v ∧ Below w.heap.size w w' := by
 have fH := rJ
 go_enter Tryd.func26, Tryd.ntmps26
 go_wp2_with fail
 refine (ay _ _ _ _ _ _).mono ?_
 rintro e w1 ⟨rfl, hb1⟩
 have hZ := hb1.size
 go_wp2_with fail
 refine (ay _ _ _ _ _ _).mono ?_
 rintro e w2 ⟨rfl, hb2⟩
 have hQ := hb2.size
 simp only [World.size_alloc] at hQ
 have B2 := aa ((hb1.alloc hZ _).trans (hb2.mono (by simp; omega)))
 have N2 := aa (aZ (heap_alloc_new w1 _) hb2)
 clear hb1 hb2
 go_wp2_with fail
 refine (ay _ _ _ _ _ _).mono ?_
 rintro e w3 ⟨rfl, hb3⟩
 have N5 := hb3.size
 simp only [World.size_alloc] at N5
 have B3 := aa ((B2.out.alloc (by omega) _).trans (hb3.mono (by simp; omega)))
 have N3 := aa (aZ ((Below.heap_alloc w2 _ _ (by omega)).trans N2.out) hb3)
 have M3 := aa (aZ (heap_alloc_new w2 _) hb3)
 clear hb3 B2 N2
 go_wp2_with fail
 have BW := aa (B3.out.alloc (by omega) (.cells #[.int .i64 24, .int .i64 0, .string ⟨#[99]⟩, .slice none 0 0] 27))
 have NW := aa ((Below.heap_alloc w3 (.cells #[.int .i64 24, .int .i64 0, .string ⟨#[99]⟩, .slice none 0 0] 27) _ (by omega)).trans N3.out)
 have MW := aa ((Below.heap_alloc w3 (.cells #[.int .i64 24, .int .i64 0, .string ⟨#[99]⟩, .slice none 0 0] 27) _ (by omega)).trans M3.out)
 have CW := aa (heap_alloc_new w3 (.cells #[.int .i64 24, .int .i64 0, .string ⟨#[99]⟩, .slice none 0 0] 27))
 have hzW : w3.heap.size + 1 ≤ (w3.alloc (.cells #[.int .i64 24, .int .i64 0, .string ⟨#[99]⟩, .slice none 0 0] 27)).heap.size := by simp
 revert BW NW MW CW hzW
 generalize w3.alloc (.cells #[.int .i64 24, .int .i64 0, .string ⟨#[99]⟩, .slice none 0 0] 27) = W
 intro BW NW MW CW hzW
 clear B3 N3 M3
 refine mq fH (by kernel_rfl) qs (BV w.heap.size) (fun _ v => Below W.heap.size W v) ((Below.refl _ _).drew) ?_ ?_
 ·intro listed a v i hI hr
  have hi : i < 49 := (bd hr).1
  have hS := hI.s
  have zW : w.heap.size ≤ v.heap.size := by have h1 := hS.size; have h2 := BW.out.size; omega
  have fG := aa (fun (i : Nat) (hi : i < 49) (v' : World) (hb : Below v.heap.size v v') (x : Value) (hx : BV w.heap.size i v' x) => hI.put FX (fun i hi => J1 i hi) (LU hb) (hS.trans (hb.mono hS.size)) hi hx)
  have bx := aa (fun (j : Nat) (hj : j < 49) (hl : listed.getD j false = true) => hI.vals j hj (Em hl))
  have bg := aa (fun o (ho : _ = some o) => gE hr (o := o) ho)
  obtain ⟨na0, na1, na2, na3, _⟩ := aw (aZ NW.out hS)
  obtain ⟨nb0, nb1, nb2, nb3, _⟩ := aw (aZ MW.out hS)
  obtain ⟨nc0, nc1, nc2, nc3, _⟩ := aw (aZ CW.out hS)
  have e1 := hI.keep 1 (by intro i hi; exact xT 1 (by decide) i hi)
  have e2 := hI.keep 2 (by intro i hi; exact xT 2 (by decide) i hi)
  have e3 := hI.keep 3 (by intro i hi; exact xT 3 (by decide) i hi)
  have RH : a.tmps.size = 55 := hI.size
  have o8 : a.defers = [] := hI.defers
  clear hI hr
  obtain ⟨tm, df⟩ := a
  obtain ⟨x0, x1, x2, x3, x4, x5, x6, x7, x8, x9, x10, x11, x12, x13, x14, x15, x16, x17, x18, x19, x20, x21, x22, x23, x24, x25, x26, x27, x28, x29, x30, x31, x32, x33, x34, x35, x36, x37, x38, x39, x40, x41, x42, x43, x44, x45, x46, x47, x48, x49, x50, x51, x52, x53, x54, rfl⟩ := MX tm RH
  obtain rfl : df = [] := o8
  obtain rfl : x1 = .pointer (some ⟨w1.heap.size, 0, none⟩) := e1
  obtain rfl : x2 = .pointer (some ⟨w2.heap.size, 0, none⟩) := e2
  obtain rfl : x3 = .pointer (some ⟨w3.heap.size, 0, none⟩) := e3
  rcases (by omega : i = 0 ∨ i = 1 ∨ i = 2 ∨ i = 3 ∨ i = 4 ∨ i = 5 ∨ i = 6 ∨ i = 7 ∨ i = 8 ∨ i = 9 ∨ i = 10 ∨ i = 11 ∨ i = 12 ∨ i = 13 ∨ i = 14 ∨ i = 15 ∨ i = 16 ∨ i = 17 ∨ i = 18 ∨ i = 19 ∨ i = 20 ∨ i = 21 ∨ i = 22 ∨ i = 23 ∨ i = 24 ∨ i = 25 ∨ i = 26 ∨ i = 27 ∨ i = 28 ∨ i = 29 ∨ i = 30 ∨ i = 31 ∨ i = 32 ∨ i = 33 ∨ i = 34 ∨ i = 35 ∨ i = 36 ∨ i = 37 ∨ i = 38 ∨ i = 39 ∨ i = 40 ∨ i = 41 ∨ i = 42 ∨ i = 43 ∨ i = 44 ∨ i = 45 ∨ i = 46 ∨ i = 47 ∨ i = 48) with rfl | rfl | rfl | rfl | rfl | rfl | rfl | rfl | rfl | rfl | rfl | rfl | rfl | rfl | rfl | rfl | rfl | rfl | rfl | rfl | rfl | rfl | rfl | rfl | rfl | rfl | rfl | rfl | rfl | rfl | rfl | rfl | rfl | rfl | rfl | rfl | rfl | rfl | rfl | rfl | rfl | rfl | rfl | rfl | rfl | rfl | rfl | rfl | rfl
  all_goals (refine lx rfl rfl ?_)
  ·go_simp
   refine (l9 _ _ _).mono ?_
   rintro e v2 ⟨rfl, hb⟩
   exact fG.out 0 (by omega) v2 hb _ (gI _ _ _ _ _)
  ·go_simp
   refine (l9 _ _ _).mono ?_
   rintro e v2 ⟨rfl, hb⟩
   exact fG.out 1 (by omega) v2 hb _ (gI _ _ _ _ _)
  ·go_simp
   exact fG.out 2 (by omega) v (Below.refl _ _) _ (gI _ _ _ _ _)
  ·go_simp
   exact fG.out 3 (by omega) v (Below.refl _ _) _ (gI _ _ _ _ _)
  ·skip
   obtain ⟨p2, y2, rfl, r2⟩ : pt w.heap.size td2 v x9 := bx.out 2 (by omega) (bg.out _ rfl ⟨2, Ground.data⟩ (by simp) rfl)
   obtain ⟨p3, y3, rfl, r3⟩ : pt w.heap.size td3 v x10 := bx.out 3 (by omega) (bg.out _ rfl ⟨3, Ground.data⟩ (by simp) rfl)
   unfold Nd.val at *
   go_simp
   exact fG.out 4 (by omega) _ (bA) _ (zc zW r2 r3)
  ·have lH : ru w.heap.size QL v x11 := bx.out 4 (by omega) (bg.out _ rfl ⟨4, Ground.data⟩ (by simp) rfl)
   obtain ⟨g, rfl, _⟩ := id lH
   go_simp
   refine (ay _ _ _ _ _ _).mono ?_
   rintro e v2 ⟨rfl, hb⟩
   exact fG.out 5 (by omega) v2 hb _ (gA (gm lH hb) (by decide) _ _ _)
  ·skip
   obtain ⟨p5, y5, rfl, r5⟩ : pt w.heap.size td5 v x12 := bx.out 5 (by omega) (bg.out _ rfl ⟨5, Ground.data⟩ (by simp) rfl)
   unfold Nd.val at *
   go_simp
   exact fG.out 6 (by omega) _ (bA) _ (sZ zW r5)
  ·have lH : ru w.heap.size QJ v x13 := bx.out 6 (by omega) (bg.out _ rfl ⟨6, Ground.data⟩ (by simp) rfl)
   obtain ⟨g, rfl, _⟩ := id lH
   go_simp
   refine (ay _ _ _ _ _ _).mono ?_
   rintro e v2 ⟨rfl, hb⟩
   exact fG.out 7 (by omega) v2 hb _ (gA (gm lH hb) (by decide) _ _ _)
  ·skip
   obtain ⟨p7, y7, rfl, r7⟩ : pt w.heap.size td7 v x14 := bx.out 7 (by omega) (bg.out _ rfl ⟨7, Ground.data⟩ (by simp) rfl)
   unfold Nd.val at *
   go_simp
   exact fG.out 8 (by omega) _ (bA) _ (sZ zW r7)
  ·have lH : ru w.heap.size QI v x15 := bx.out 8 (by omega) (bg.out _ rfl ⟨8, Ground.data⟩ (by simp) rfl)
   obtain ⟨g, rfl, _⟩ := id lH
   go_simp
   refine (ay _ _ _ _ _ _).mono ?_
   rintro e v2 ⟨rfl, hb⟩
   exact fG.out 9 (by omega) v2 hb _ (gA (gm lH hb) (by decide) _ _ _)
  ·skip
   obtain ⟨p0, y0, rfl, r0⟩ : pt w.heap.size td0 v x7 := bx.out 0 (by omega) (bg.out _ rfl ⟨0, Ground.data⟩ (by simp) rfl)
   obtain ⟨p1, y1, rfl, r1⟩ : pt w.heap.size td1 v x8 := bx.out 1 (by omega) (bg.out _ rfl ⟨1, Ground.data⟩ (by simp) rfl)
   obtain ⟨p9, y9, rfl, r9⟩ : pt w.heap.size td9 v x16 := bx.out 9 (by omega) (bg.out _ rfl ⟨9, Ground.data⟩ (by simp) rfl)
   unfold Nd.val at *
   go_simp
   exact fG.out 10 (by omega) _ (bA) _ (F8 zW r0 r1 r9)
  ·have lH : ru w.heap.size FC v x17 := bx.out 10 (by omega) (bg.out _ rfl ⟨10, Ground.data⟩ (by simp) rfl)
   obtain ⟨g, rfl, _⟩ := id lH
   go_simp
   refine (bM _ _ _ _ _ _ _).mono ?_
   rintro e v2 ⟨rfl, hb⟩
   exact fG.out 11 (by omega) v2 hb _ (gA (gm lH hb) (by decide) _ _ _)
  ·go_simp
   refine (l9 _ _ _).mono ?_
   rintro e v2 ⟨rfl, hb⟩
   exact fG.out 12 (by omega) v2 hb _ (gI _ _ _ _ _)
  ·go_simp
   refine (l9 _ _ _).mono ?_
   rintro e v2 ⟨rfl, hb⟩
   exact fG.out 13 (by omega) v2 hb _ (gI _ _ _ _ _)
  ·go_simp
   exact fG.out 14 (by omega) v (Below.refl _ _) _ (gI _ _ _ _ _)
  ·go_simp
   exact fG.out 15 (by omega) v (Below.refl _ _) _ (gI _ _ _ _ _)
  ·skip
   obtain ⟨p14, y14, rfl, r14⟩ : pt w.heap.size JH v x21 := bx.out 14 (by omega) (bg.out _ rfl ⟨14, Ground.data⟩ (by simp) rfl)
   obtain ⟨p15, y15, rfl, r15⟩ : pt w.heap.size JG v x22 := bx.out 15 (by omega) (bg.out _ rfl ⟨15, Ground.data⟩ (by simp) rfl)
   unfold Nd.val at *
   go_simp
   exact fG.out 16 (by omega) _ (bA) _ (zc zW r14 r15)
  ·have lH : ru w.heap.size FB v x23 := bx.out 16 (by omega) (bg.out _ rfl ⟨16, Ground.data⟩ (by simp) rfl)
   obtain ⟨g, rfl, _⟩ := id lH
   go_simp
   refine (ay _ _ _ _ _ _).mono ?_
   rintro e v2 ⟨rfl, hb⟩
   exact fG.out 17 (by omega) v2 hb _ (gA (gm lH hb) (by decide) _ _ _)
  ·skip
   obtain ⟨p17, y17, rfl, r17⟩ : pt w.heap.size JF v x24 := bx.out 17 (by omega) (bg.out _ rfl ⟨17, Ground.data⟩ (by simp) rfl)
   unfold Nd.val at *
   go_simp
   exact fG.out 18 (by omega) _ (bA) _ (sZ zW r17)
  ·have lH : ru w.heap.size FA v x25 := bx.out 18 (by omega) (bg.out _ rfl ⟨18, Ground.data⟩ (by simp) rfl)
   obtain ⟨g, rfl, _⟩ := id lH
   go_simp
   refine (ay _ _ _ _ _ _).mono ?_
   rintro e v2 ⟨rfl, hb⟩
   exact fG.out 19 (by omega) v2 hb _ (gA (gm lH hb) (by decide) _ _ _)
  ·skip
   obtain ⟨p12, y12, rfl, r12⟩ : pt w.heap.size JJ v x19 := bx.out 12 (by omega) (bg.out _ rfl ⟨12, Ground.data⟩ (by simp) rfl)
   obtain ⟨p13, y13, rfl, r13⟩ : pt w.heap.size JI v x20 := bx.out 13 (by omega) (bg.out _ rfl ⟨13, Ground.data⟩ (by simp) rfl)
   obtain ⟨p19, y19, rfl, r19⟩ : pt w.heap.size JE v x26 := bx.out 19 (by omega) (bg.out _ rfl ⟨19, Ground.data⟩ (by simp) rfl)
   unfold Nd.val at *
   go_simp
   exact fG.out 20 (by omega) _ (bA) _ (F8 zW r12 r13 r19)
  ·have lH : ru w.heap.size Fz v x27 := bx.out 20 (by omega) (bg.out _ rfl ⟨20, Ground.data⟩ (by simp) rfl)
   obtain ⟨g, rfl, _⟩ := id lH
   go_simp
   refine (bM _ _ _ _ _ _ _).mono ?_
   rintro e v2 ⟨rfl, hb⟩
   exact fG.out 21 (by omega) v2 hb _ (gA (gm lH hb) (by decide) _ _ _)
  ·go_simp
   refine (l9 _ _ _).mono ?_
   rintro e v2 ⟨rfl, hb⟩
   exact fG.out 22 (by omega) v2 hb _ (gI _ _ _ _ _)
  ·go_simp
   exact fG.out 23 (by omega) v (Below.refl _ _) _ (gI _ _ _ _ _)
  ·skip
   obtain ⟨p23, y23, rfl, r23⟩ : pt w.heap.size JB v x30 := bx.out 23 (by omega) (bg.out _ rfl ⟨23, Ground.data⟩ (by simp) rfl)
   unfold Nd.val at *
   go_simp
   exact fG.out 24 (by omega) _ (bA) _ (sZ zW r23)
  ·have lH : ru w.heap.size Fy v x31 := bx.out 24 (by omega) (bg.out _ rfl ⟨24, Ground.data⟩ (by simp) rfl)
   obtain ⟨g, rfl, _⟩ := id lH
   go_simp
   refine (ay _ _ _ _ _ _).mono ?_
   rintro e v2 ⟨rfl, hb⟩
   exact fG.out 25 (by omega) v2 hb _ (gA (gm lH hb) (by decide) _ _ _)
  ·skip
   obtain ⟨p25, y25, rfl, r25⟩ : pt w.heap.size JA v x32 := bx.out 25 (by omega) (bg.out _ rfl ⟨25, Ground.data⟩ (by simp) rfl)
   unfold Nd.val at *
   go_simp
   exact fG.out 26 (by omega) _ (bA) _ (sZ zW r25)
  ·have lH : ru w.heap.size Fx v x33 := bx.out 26 (by omega) (bg.out _ rfl ⟨26, Ground.data⟩ (by simp) rfl)
   obtain ⟨g, rfl, _⟩ := id lH
   go_simp
   refine (ay _ _ _ _ _ _).mono ?_
   rintro e v2 ⟨rfl, hb⟩
   exact fG.out 27 (by omega) v2 hb _ (gA (gm lH hb) (by decide) _ _ _)
  ·skip
   obtain ⟨p22, y22, rfl, r22⟩ : pt w.heap.size JC v x29 := bx.out 22 (by omega) (bg.out _ rfl ⟨22, Ground.data⟩ (by simp) rfl)
   obtain ⟨p27, y27, rfl, r27⟩ : pt w.heap.size Jz v x34 := bx.out 27 (by omega) (bg.out _ rfl ⟨27, Ground.data⟩ (by simp) rfl)
   unfold Nd.val at *
   go_simp
   exact fG.out 28 (by omega) _ (bA) _ (zc zW r22 r27)
  ·have lH : ru w.heap.size Fw v x35 := bx.out 28 (by omega) (bg.out _ rfl ⟨28, Ground.data⟩ (by simp) rfl)
   obtain ⟨g, rfl, _⟩ := id lH
   go_simp
   refine (bM _ _ _ _ _ _ _).mono ?_
   rintro e v2 ⟨rfl, hb⟩
   exact fG.out 29 (by omega) v2 hb _ (gA (gm lH hb) (by decide) _ _ _)
  ·go_simp
   refine (l9 _ _ _).mono ?_
   rintro e v2 ⟨rfl, hb⟩
   exact fG.out 30 (by omega) v2 hb _ (gI _ _ _ _ _)
  ·go_simp
   refine (l9 _ _ _).mono ?_
   rintro e v2 ⟨rfl, hb⟩
   exact fG.out 31 (by omega) v2 hb _ (gI _ _ _ _ _)
  ·go_simp
   exact fG.out 32 (by omega) v (Below.refl _ _) _ (gI _ _ _ _ _)
  ·skip
   obtain ⟨p32, y32, rfl, r32⟩ : pt w.heap.size Ju v x39 := bx.out 32 (by omega) (bg.out _ rfl ⟨32, Ground.data⟩ (by simp) rfl)
   unfold Nd.val at *
   go_simp
   exact fG.out 33 (by omega) _ (bA) _ (sZ zW r32)
  ·have lH : ru w.heap.size Fv v x40 := bx.out 33 (by omega) (bg.out _ rfl ⟨33, Ground.data⟩ (by simp) rfl)
   obtain ⟨g, rfl, _⟩ := id lH
   go_simp
   refine (ay _ _ _ _ _ _).mono ?_
   rintro e v2 ⟨rfl, hb⟩
   exact fG.out 34 (by omega) v2 hb _ (gA (gm lH hb) (by decide) _ _ _)
  ·skip
   obtain ⟨p34, y34, rfl, r34⟩ : pt w.heap.size Jt v x41 := bx.out 34 (by omega) (bg.out _ rfl ⟨34, Ground.data⟩ (by simp) rfl)
   unfold Nd.val at *
   go_simp
   exact fG.out 35 (by omega) _ (bA) _ (sZ zW r34)
  ·have lH : ru w.heap.size Fu v x42 := bx.out 35 (by omega) (bg.out _ rfl ⟨35, Ground.data⟩ (by simp) rfl)
   obtain ⟨g, rfl, _⟩ := id lH
   go_simp
   refine (ay _ _ _ _ _ _).mono ?_
   rintro e v2 ⟨rfl, hb⟩
   exact fG.out 36 (by omega) v2 hb _ (gA (gm lH hb) (by decide) _ _ _)
  ·go_simp
   exact fG.out 37 (by omega) v (Below.refl _ _) _ (gI _ _ _ _ _)
  ·go_simp
   exact fG.out 38 (by omega) v (Below.refl _ _) _ (gI _ _ _ _ _)
  ·skip
   obtain ⟨p37, y37, rfl, r37⟩ : pt w.heap.size Jr v x44 := bx.out 37 (by omega) (bg.out _ rfl ⟨37, Ground.data⟩ (by simp) rfl)
   obtain ⟨p38, y38, rfl, r38⟩ : pt w.heap.size Jq v x45 := bx.out 38 (by omega) (bg.out _ rfl ⟨38, Ground.data⟩ (by simp) rfl)
   unfold Nd.val at *
   go_simp
   exact fG.out 39 (by omega) _ (bA) _ (zc zW r37 r38)
  ·have lH : ru w.heap.size Ft v x46 := bx.out 39 (by omega) (bg.out _ rfl ⟨39, Ground.data⟩ (by simp) rfl)
   obtain ⟨g, rfl, _⟩ := id lH
   go_simp
   refine (ay _ _ _ _ _ _).mono ?_
   rintro e v2 ⟨rfl, hb⟩
   exact fG.out 40 (by omega) v2 hb _ (gA (gm lH hb) (by decide) _ _ _)
  ·skip
   obtain ⟨p40, y40, rfl, r40⟩ : pt w.heap.size Jp v x47 := bx.out 40 (by omega) (bg.out _ rfl ⟨40, Ground.data⟩ (by simp) rfl)
   unfold Nd.val at *
   go_simp
   exact fG.out 41 (by omega) _ (bA) _ (sZ zW r40)
  ·have lH : ru w.heap.size Fs v x48 := bx.out 41 (by omega) (bg.out _ rfl ⟨41, Ground.data⟩ (by simp) rfl)
   obtain ⟨g, rfl, _⟩ := id lH
   go_simp
   refine (ay _ _ _ _ _ _).mono ?_
   rintro e v2 ⟨rfl, hb⟩
   exact fG.out 42 (by omega) v2 hb _ (gA (gm lH hb) (by decide) _ _ _)
  ·skip
   obtain ⟨p36, y36, rfl, r36⟩ : pt w.heap.size Js v x43 := bx.out 36 (by omega) (bg.out _ rfl ⟨36, Ground.data⟩ (by simp) rfl)
   obtain ⟨p42, y42, rfl, r42⟩ : pt w.heap.size Jo v x49 := bx.out 42 (by omega) (bg.out _ rfl ⟨42, Ground.data⟩ (by simp) rfl)
   unfold Nd.val at *
   go_simp
   exact fG.out 43 (by omega) _ (bA) _ (zc zW r36 r42)
  ·have lH : ru w.heap.size Fq v x50 := bx.out 43 (by omega) (bg.out _ rfl ⟨43, Ground.data⟩ (by simp) rfl)
   obtain ⟨g, rfl, _⟩ := id lH
   go_simp
   refine (ay _ _ _ _ _ _).mono ?_
   rintro e v2 ⟨rfl, hb⟩
   exact fG.out 44 (by omega) v2 hb _ (gA (gm lH hb) (by decide) _ _ _)
  ·skip
   obtain ⟨p30, y30, rfl, r30⟩ : pt w.heap.size Jw v x37 := bx.out 30 (by omega) (bg.out _ rfl ⟨30, Ground.data⟩ (by simp) rfl)
   obtain ⟨p31, y31, rfl, r31⟩ : pt w.heap.size Jv v x38 := bx.out 31 (by omega) (bg.out _ rfl ⟨31, Ground.data⟩ (by simp) rfl)
   obtain ⟨p44, y44, rfl, r44⟩ : pt w.heap.size Jn v x51 := bx.out 44 (by omega) (bg.out _ rfl ⟨44, Ground.data⟩ (by simp) rfl)
   unfold Nd.val at *
   go_simp
   exact fG.out 45 (by omega) _ (bA) _ (F8 zW r30 r31 r44)
  ·have lH : ru w.heap.size Fp v x52 := bx.out 45 (by omega) (bg.out _ rfl ⟨45, Ground.data⟩ (by simp) rfl)
   obtain ⟨g, rfl, _⟩ := id lH
   go_simp
   refine (bM _ _ _ _ _ _ _).mono ?_
   rintro e v2 ⟨rfl, hb⟩
   exact fG.out 46 (by omega) v2 hb _ (gA (gm lH hb) (by decide) _ _ _)
  ·skip
   obtain ⟨p11, y11, rfl, r11⟩ : pt w.heap.size JK v x18 := bx.out 11 (by omega) (bg.out _ rfl ⟨11, Ground.data⟩ (by simp) rfl)
   obtain ⟨p21, y21, rfl, r21⟩ : pt w.heap.size JD v x28 := bx.out 21 (by omega) (bg.out _ rfl ⟨21, Ground.data⟩ (by simp) rfl)
   obtain ⟨p29, y29, rfl, r29⟩ : pt w.heap.size Jy v x36 := bx.out 29 (by omega) (bg.out _ rfl ⟨29, Ground.data⟩ (by simp) rfl)
   obtain ⟨p46, y46, rfl, r46⟩ : pt w.heap.size Jm v x53 := bx.out 46 (by omega) (bg.out _ rfl ⟨46, Ground.data⟩ (by simp) rfl)
   unfold Nd.val at *
   go_simp
   exact fG.out 47 (by omega) _ (bA) _ (Q2 zW r11 r21 r29 r46)
  ·have lH : ru w.heap.size qF v x54 := bx.out 47 (by omega) (bg.out _ rfl ⟨47, Ground.data⟩ (by simp) rfl)
   go_simp
   exact fG.out 48 (by omega) v (Below.refl _ _) _ lH
 ·intro a v bP o8 cL oi iM
  obtain ⟨_, _, hS, _⟩ := oi
  have lH : ru w.heap.size QK v (a.eval (.tmp 0)) := iM 48 (by show 48 < 49; omega)
  have HB := aa (BW.out.trans (hS.mono BW.out.size))
  obtain ⟨tm, df⟩ := a
  obtain ⟨x0, x1, x2, x3, x4, x5, x6, x7, x8, x9, x10, x11, x12, x13, x14, x15, x16, x17, x18, x19, x20, x21, x22, x23, x24, x25, x26, x27, x28, x29, x30, x31, x32, x33, x34, x35, x36, x37, x38, x39, x40, x41, x42, x43, x44, x45, x46, x47, x48, x49, x50, x51, x52, x53, x54, rfl⟩ := MX tm bP
  obtain rfl : df = [] := o8
  have HRW : Hid (ru w.heap.size qF v x0) := lH
  clear iM cL lH bP hS
  obtain ⟨g, hg, _⟩ := id HRW.out
  go_wp2
  go_ret
  exact ⟨_, rfl, HRW.out, HB.out⟩
section
open Go Go.RowKit
def oZ : List Nd → Prop
 |[] => True
 |T :: l => T.Fine ∧ oZ l
theorem C0 : ∀ {Ts : List Nd} {i : Nat}, oZ Ts → i < Ts.length → (cE Ts i).Fine
 |[], _, _, hi => absurd hi (Nat.not_lt_zero _)
 |T :: l, 0, h, _ => h.1
 |T :: l, i + 1, h, hi => C0 (Ts := l) h.2 (by simpa using hi)
theorem ia {k n : Int} {s : ByteArray} {Ts : List Nd} (hk : -9223372036854775808 ≤ k ∧ k ≤ 9223372036854775807) (hn : -9223372036854775808 ≤ n ∧ n ≤ 9223372036854775807) (hs : s.size ≤ 9223372036854775807) (hl : Ts.length ≤ 1000) (h : oZ Ts) : (Nd.mk k n s Ts.length (cE Ts)).Fine :=
 ⟨hk, hn, hs, by omega, fun i hi => C0 h hi⟩
theorem FK : td0.Fine := aC (by omega) (by omega) (by decide)
theorem FJ : td1.Fine := aC (by omega) (by omega) (by decide)
theorem FI : td2.Fine := aC (by omega) (by omega) (by decide)
theorem FH : td3.Fine := aC (by omega) (by omega) (by decide)
theorem Fo : oZ QL := ⟨FI, FH, trivial⟩
theorem FG : td5.Fine := ia (by omega) (by omega) (by decide) (by decide) Fo
theorem Fm : oZ QJ := ⟨FG, trivial⟩
theorem FF : td7.Fine := ia (by omega) (by omega) (by decide) (by decide) Fm
theorem Fl : oZ QI := ⟨FF, trivial⟩
theorem FE : td9.Fine := ia (by omega) (by omega) (by decide) (by decide) Fl
theorem Dq : oZ FC := ⟨FK, FJ, FE, trivial⟩
theorem DP : JK.Fine := ia (by omega) (by omega) (by decide) (by decide) Dq
theorem DO : JJ.Fine := aC (by omega) (by omega) (by decide)
theorem DN : JI.Fine := aC (by omega) (by omega) (by decide)
theorem DM : JH.Fine := aC (by omega) (by omega) (by decide)
theorem DL : JG.Fine := aC (by omega) (by omega) (by decide)
theorem Dp : oZ FB := ⟨DM, DL, trivial⟩
theorem DK : JF.Fine := ia (by omega) (by omega) (by decide) (by decide) Dp
theorem Do : oZ FA := ⟨DK, trivial⟩
theorem DJ : JE.Fine := ia (by omega) (by omega) (by decide) (by decide) Do
theorem Dn : oZ Fz := ⟨DO, DN, DJ, trivial⟩
theorem DI : JD.Fine := ia (by omega) (by omega) (by decide) (by decide) Dn
theorem DH : JC.Fine := aC (by omega) (by omega) (by decide)
theorem DF : JB.Fine := aC (by omega) (by omega) (by decide)
theorem Dm : oZ Fy := ⟨DF, trivial⟩
theorem DE : JA.Fine := ia (by omega) (by omega) (by decide) (by decide) Dm
theorem Dl : oZ Fx := ⟨DE, trivial⟩
theorem DD : Jz.Fine := ia (by omega) (by omega) (by decide) (by decide) Dl
theorem Dk : oZ Fw := ⟨DH, DD, trivial⟩
theorem DC : Jy.Fine := ia (by omega) (by omega) (by decide) (by decide) Dk
theorem DB : Jw.Fine := aC (by omega) (by omega) (by decide)
theorem DA : Jv.Fine := aC (by omega) (by omega) (by decide)
theorem Dz : Ju.Fine := aC (by omega) (by omega) (by decide)
theorem Dj : oZ Fv := ⟨Dz, trivial⟩
theorem Dy : Jt.Fine := ia (by omega) (by omega) (by decide) (by decide) Dj
theorem Di : oZ Fu := ⟨Dy, trivial⟩
theorem Dx : Js.Fine := ia (by omega) (by omega) (by decide) (by decide) Di
theorem Dw : Jr.Fine := aC (by omega) (by omega) (by decide)
theorem Dv : Jq.Fine := aC (by omega) (by omega) (by decide)
theorem Dh : oZ Ft := ⟨Dw, Dv, trivial⟩
theorem Du : Jp.Fine := ia (by omega) (by omega) (by decide) (by decide) Dh
theorem Dg : oZ Fs := ⟨Du, trivial⟩
theorem Dt : Jo.Fine := ia (by omega) (by omega) (by decide) (by decide) Dg
theorem Df : oZ Fq := ⟨Dx, Dt, trivial⟩
theorem Ds : Jn.Fine := ia (by omega) (by omega) (by decide) (by decide) Df
theorem De : oZ Fp := ⟨DB, DA, Ds, trivial⟩
theorem Dr : Jm.Fine := ia (by omega) (by omega) (by decide) (by decide) De
theorem Ah (i : Nat) (h : i < 4) : (cE qF i).Fine ∧ fR (cE qF i) = true := by
 rcases (by omega : i = 0 ∨ i = 1 ∨ i = 2 ∨ i = 3) with rfl | rfl | rfl | rfl
 ·exact ⟨DP, by kernel_rfl⟩
 ·exact ⟨DI, by kernel_rfl⟩
 ·exact ⟨DC, by kernel_rfl⟩
 ·exact ⟨Dr, by kernel_rfl⟩
theorem Ik : ag (fun i => (cE qF i).cost) 4 ≤ 1000 := by decide
end
end Go.Proofs.YtkfbbdhidecefaaDoor
