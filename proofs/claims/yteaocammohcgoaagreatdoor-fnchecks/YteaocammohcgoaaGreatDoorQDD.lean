import Derived.Test.YteaocammohcgoaaGreatDoorQDC
set_option linter.unusedVariables false
set_option maxHeartbeats 16000000
set_option maxRecDepth 100000
namespace Go.Proofs.YteaocammohcgoaaGreatDoor
open Go.RowKit
def td0 : Nd := ax 3 1 ⟨#[97]⟩
def td1 : Nd := ax 3 1 ⟨#[98]⟩
def td2 : Nd := ax 24 0 ⟨#[97]⟩
def td3 : Nd := ax 24 0 ⟨#[98]⟩
def Ps : List Nd := [td2, td3]
def td5 : Nd := .mk 28 0 ⟨#[43]⟩ (Ps).length (ct Ps)
def Pq : List Nd := [td5]
def td7 : Nd := .mk 12 0 ⟨#[]⟩ (Pq).length (ct Pq)
def Pp : List Nd := [td7]
def td9 : Nd := .mk 4 0 ⟨#[]⟩ (Pp).length (ct Pp)
def CD : List Nd := [td0, td1, td9]
def GH : Nd := .mk 2 1 ⟨#[97, 100, 100]⟩ (CD).length (ct CD)
def GG : Nd := ax 3 3 ⟨#[99]⟩
def GF : Nd := ax 3 1 ⟨#[97]⟩
def GD : Nd := ax 24 0 ⟨#[99]⟩
def GC : Nd := ax 24 0 ⟨#[97]⟩
def CC : List Nd := [GD, GC]
def GB : Nd := .mk 8 0 ⟨#[]⟩ (CC).length (ct CC)
def CB : List Nd := [GB]
def GA : Nd := .mk 4 0 ⟨#[]⟩ (CB).length (ct CB)
def CA : List Nd := [GG, GF, GA]
def Gz : Nd := .mk 2 0 ⟨#[112, 117, 116]⟩ (CA).length (ct CA)
def Gy : Nd := ax 3 1 ⟨#[97]⟩
def Gx : Nd := ax 24 0 ⟨#[97]⟩
def Cz : List Nd := [Gx]
def Gv : Nd := .mk 20 0 ⟨#[]⟩ (Cz).length (ct Cz)
def Cy : List Nd := [Gv]
def Gu : Nd := .mk 4 0 ⟨#[]⟩ (Cy).length (ct Cy)
def Cw : List Nd := [Gy, Gu]
def Gt : Nd := .mk 2 0 ⟨#[115, 104, 111, 119]⟩ (Cw).length (ct Cw)
def Gs : Nd := ax 3 3 ⟨#[99]⟩
def Gr : Nd := ax 3 1 ⟨#[97]⟩
def Gq : Nd := ax 24 0 ⟨#[99]⟩
def Cv : List Nd := [Gq]
def Gp : Nd := .mk 29 0 ⟨#[]⟩ (Cv).length (ct Cv)
def Cu : List Nd := [Gp]
def Gn : Nd := .mk 5 0 ⟨#[98]⟩ (Cu).length (ct Cu)
def Gm : Nd := ax 24 0 ⟨#[97]⟩
def Gl : Nd := ax 24 0 ⟨#[98]⟩
def Ct : List Nd := [Gm, Gl]
def Gk : Nd := .mk 28 0 ⟨#[43]⟩ (Ct).length (ct Ct)
def Cs : List Nd := [Gk]
def Gj : Nd := .mk 20 0 ⟨#[]⟩ (Cs).length (ct Cs)
def Cr : List Nd := [Gn, Gj]
def Gi : Nd := .mk 4 0 ⟨#[]⟩ (Cr).length (ct Cr)
def Cq : List Nd := [Gs, Gr, Gi]
def Gh : Nd := .mk 2 0 ⟨#[119, 111, 114, 107]⟩ (Cq).length (ct Cq)
def my : List Nd := [GH, Gz, Gt, Gh]
def Pr : List Nd := my
def tbl : List Ty := [.nd td0, .nd td1, .nd td2, .nd td3, .rw Ps, .nd td5, .rw Pq, .nd td7, .rw Pp, .nd td9, .rw CD, .nd GH, .nd GG, .nd GF, .nd GD, .nd GC, .rw CC, .nd GB, .rw CB, .nd GA, .rw CA, .nd Gz, .nd Gy, .nd Gx, .rw Cz, .nd Gv, .rw Cy, .nd Gu, .rw Cw, .nd Gt, .nd Gs, .nd Gr, .nd Gq, .rw Cv, .nd Gp, .rw Cu, .nd Gn, .nd Gm, .nd Gl, .rw Ct, .nd Gk, .rw Cs, .nd Gj, .rw Cr, .nd Gi, .rw Cq, .nd Gh, .rw my, .rw Pr]
def dsts : List Nat := [7, 8, 9, 10, 11, 12, 13, 14, 15, 16, 17, 18, 19, 20, 21, 22, 23, 24, 25, 26, 27, 28, 29, 30, 31, 32, 33, 34, 35, 36, 37, 38, 39, 40, 41, 42, 43, 44, 45, 46, 47, 48, 49, 50, 51, 52, 53, 54, 0]
def BV (B : Nat) (i : Nat) (w : World) (v : Value) : Prop := match tbl[i]? with | some t => t.holds B w v | none => True
theorem JK {B : Nat} {w w' : World} (hb : Below w.heap.size w w') (i : Nat) (v : Value) (h : BV B i w v) : BV B i w' v := by
 unfold BV at *
 split
 ·rename_i t e; rw [e] at h; exact Ty.calm h hb
 ·trivial
theorem NF (l : Array Value) (h : l.size = 55) : l = ((List.range 55).map fun i => l.getD i undef).toArray := by
 apply Array.ext
 ·simp [h]
 ·intro i h1 h2
  simp [Array.getD_eq_getD_getElem?, h1]
theorem KI (l : Array Value) (h : l.size = 55) : ∃ x0 x1 x2 x3 x4 x5 x6 x7 x8 x9 x10 x11 x12 x13 x14 x15 x16 x17 x18 x19 x20 x21 x22 x23 x24 x25 x26 x27 x28 x29 x30 x31 x32 x33 x34 x35 x36 x37 x38 x39 x40 x41 x42 x43 x44 x45 x46 x47 x48 x49 x50 x51 x52 x53 x54, l = #[x0, x1, x2, x3, x4, x5, x6, x7, x8, x9, x10, x11, x12, x13, x14, x15, x16, x17, x18, x19, x20, x21, x22, x23, x24, x25, x26, x27, x28, x29, x30, x31, x32, x33, x34, x35, x36, x37, x38, x39, x40, x41, x42, x43, x44, x45, x46, x47, x48, x49, x50, x51, x52, x53, x54] := ⟨_, _, _, _, _, _, _, _, _, _, _, _, _, _, _, _, _, _, _, _, _, _, _, _, _, _, _, _, _, _, _, _, _, _, _, _, _, _, _, _, _, _, _, _, _, _, _, _, _, _, _, _, _, _, _, NF l h⟩
def l9 (i : Nat) : Nat := dsts.getD i 100
theorem CY : ((List.range 49).all fun i => (List.range 49).all fun j => l9 i != l9 j || i == j) = true := by kernel_rfl
theorem CX (i j : Nat) (hi : i < 49) (hj : j < 49) (h : l9 i = l9 j) : i = j := by
 have := List.all_eq_true.1 (List.all_eq_true.1 CY i (List.mem_range.2 hi)) j (List.mem_range.2 hj)
 simpa [h] using this
theorem tL : ((List.range 49).all fun i => decide (l9 i < 55) && (l9 i == 0 || decide (6 < l9 i))) = true := by kernel_rfl
theorem GX (i : Nat) (hi : i < 49) : l9 i < 55 := by
 have := List.all_eq_true.1 tL i (List.mem_range.2 hi)
 simp only [Bool.and_eq_true, decide_eq_true_eq] at this
 exact this.1
theorem sF (t : Nat) (ht : 0 < t ∧ t < 7) (i : Nat) (hi : i < 49) : t ≠ l9 i := by
 have := List.all_eq_true.1 tL i (List.mem_range.2 hi)
 simp only [Bool.and_eq_true, decide_eq_true_eq, Bool.or_eq_true, beq_iff_eq] at this
 omega
theorem Bf {l : Array Bool} {j : Nat} (h : l.getD j false = true) : l.getD j true = true := by
 rw [Array.getD_eq_getD_getElem?] at *
 cases e : l[j]? with
 |none => rw [e] at h; simp at h
 |some b => rw [e] at h; simpa using h
theorem qq (w : World) : Calls Tryz.prog 32 #[] w fun e w' => ∃ v, e = .returned v ∧ mY w.heap.size my w' v ∧ Below w.heap.size w w' := by
 have bI := jz
 go_enter Tryz.func32, Tryz.ntmps32
 go_wp2_with fail
 refine (aJ _ _ _ _ _ _).mono ?_
 rintro e w1 ⟨rfl, hb1⟩
 have eZ := hb1.size
 go_wp2_with fail
 refine (aJ _ _ _ _ _ _).mono ?_
 rintro e w2 ⟨rfl, hb2⟩
 have ec := hb2.size
 simp only [World.size_alloc] at ec
 have B2 := aa ((hb1.alloc eZ _).trans (hb2.mono (by simp; omega)))
 have N2 := aa (bm (heap_alloc_new w1 _) hb2)
 clear hb1 hb2
 go_wp2_with fail
 refine (aJ _ _ _ _ _ _).mono ?_
 rintro e w3 ⟨rfl, hb3⟩
 have vB := hb3.size
 simp only [World.size_alloc] at vB
 have B3 := aa ((B2.out.alloc (by omega) _).trans (hb3.mono (by simp; omega)))
 have N3 := aa (bm ((Below.heap_alloc w2 _ _ (by omega)).trans N2.out) hb3)
 have M3 := aa (bm (heap_alloc_new w2 _) hb3)
 clear hb3 B2 N2
 go_wp2_with fail
 have BW := aa (B3.out.alloc (by omega) (.cells #[.int .i64 24, .int .i64 0, .string ⟨#[99]⟩, .slice none 0 0] 25))
 have NW := aa ((Below.heap_alloc w3 (.cells #[.int .i64 24, .int .i64 0, .string ⟨#[99]⟩, .slice none 0 0] 25) _ (by omega)).trans N3.out)
 have MW := aa ((Below.heap_alloc w3 (.cells #[.int .i64 24, .int .i64 0, .string ⟨#[99]⟩, .slice none 0 0] 25) _ (by omega)).trans M3.out)
 have CW := aa (heap_alloc_new w3 (.cells #[.int .i64 24, .int .i64 0, .string ⟨#[99]⟩, .slice none 0 0] 25))
 have hzW : w3.heap.size + 1 ≤ (w3.alloc (.cells #[.int .i64 24, .int .i64 0, .string ⟨#[99]⟩, .slice none 0 0] 25)).heap.size := by simp
 revert BW NW MW CW hzW
 generalize w3.alloc (.cells #[.int .i64 24, .int .i64 0, .string ⟨#[99]⟩, .slice none 0 0] 25) = W
 intro BW NW MW CW hzW
 clear B3 N3 M3
 refine hH bI (by kernel_rfl) l9 (BV w.heap.size) (fun _ v => Below W.heap.size W v) ((Below.refl _ _).drew) ?_ ?_
 ·intro listed a v i hI hr
  have hi : i < 49 := (bo hr).1
  have hS := hI.s
  have uX : w.heap.size ≤ v.heap.size := by have h1 := hS.size; have h2 := BW.out.size; omega
  have cH := aa (fun (i : Nat) (hi : i < 49) (v' : World) (hb : Below v.heap.size v v') (x : Value) (hx : BV w.heap.size i v' x) => hI.put CX (fun i hi => GX i hi) (JK hb) (hS.trans (hb.mono hS.size)) hi hx)
  have bJ := aa (fun (j : Nat) (hj : j < 49) (hl : listed.getD j false = true) => hI.vals j hj (Bf hl))
  have bq := aa (fun o (ho : _ = some o) => dM hr (o := o) ho)
  obtain ⟨na0, na1, na2, na3, _⟩ := aG (bm NW.out hS)
  obtain ⟨nb0, nb1, nb2, nb3, _⟩ := aG (bm MW.out hS)
  obtain ⟨nc0, nc1, nc2, nc3, _⟩ := aG (bm CW.out hS)
  have e1 := hI.keep 1 (by intro i hi; exact sF 1 (by decide) i hi)
  have e2 := hI.keep 2 (by intro i hi; exact sF 2 (by decide) i hi)
  have e3 := hI.keep 3 (by intro i hi; exact sF 3 (by decide) i hi)
  have QP : a.tmps.size = 55 := hI.size
  have ku : a.defers = [] := hI.defers
  clear hI hr
  obtain ⟨tm, df⟩ := a
  obtain ⟨x0, x1, x2, x3, x4, x5, x6, x7, x8, x9, x10, x11, x12, x13, x14, x15, x16, x17, x18, x19, x20, x21, x22, x23, x24, x25, x26, x27, x28, x29, x30, x31, x32, x33, x34, x35, x36, x37, x38, x39, x40, x41, x42, x43, x44, x45, x46, x47, x48, x49, x50, x51, x52, x53, x54, rfl⟩ := KI tm QP
  obtain rfl : df = [] := ku
  obtain rfl : x1 = .pointer (some ⟨w1.heap.size, 0, none⟩) := e1
  obtain rfl : x2 = .pointer (some ⟨w2.heap.size, 0, none⟩) := e2
  obtain rfl : x3 = .pointer (some ⟨w3.heap.size, 0, none⟩) := e3
  rcases (by omega : i = 0 ∨ i = 1 ∨ i = 2 ∨ i = 3 ∨ i = 4 ∨ i = 5 ∨ i = 6 ∨ i = 7 ∨ i = 8 ∨ i = 9 ∨ i = 10 ∨ i = 11 ∨ i = 12 ∨ i = 13 ∨ i = 14 ∨ i = 15 ∨ i = 16 ∨ i = 17 ∨ i = 18 ∨ i = 19 ∨ i = 20 ∨ i = 21 ∨ i = 22 ∨ i = 23 ∨ i = 24 ∨ i = 25 ∨ i = 26 ∨ i = 27 ∨ i = 28 ∨ i = 29 ∨ i = 30 ∨ i = 31 ∨ i = 32 ∨ i = 33 ∨ i = 34 ∨ i = 35 ∨ i = 36 ∨ i = 37 ∨ i = 38 ∨ i = 39 ∨ i = 40 ∨ i = 41 ∨ i = 42 ∨ i = 43 ∨ i = 44 ∨ i = 45 ∨ i = 46 ∨ i = 47 ∨ i = 48) with rfl | rfl | rfl | rfl | rfl | rfl | rfl | rfl | rfl | rfl | rfl | rfl | rfl | rfl | rfl | rfl | rfl | rfl | rfl | rfl | rfl | rfl | rfl | rfl | rfl | rfl | rfl | rfl | rfl | rfl | rfl | rfl | rfl | rfl | rfl | rfl | rfl | rfl | rfl | rfl | rfl | rfl | rfl | rfl | rfl | rfl | rfl | rfl | rfl
  all_goals (refine fN rfl rfl ?_)
  ·go_simp
   refine (gV _ _ _).mono ?_
   rintro e v2 ⟨rfl, hb⟩
   exact cH.out 0 (by omega) v2 hb _ (dS _ _ _ _ _)
  ·go_simp
   refine (gV _ _ _).mono ?_
   rintro e v2 ⟨rfl, hb⟩
   exact cH.out 1 (by omega) v2 hb _ (dS _ _ _ _ _)
  ·go_simp
   exact cH.out 2 (by omega) v (Below.refl _ _) _ (dS _ _ _ _ _)
  ·go_simp
   exact cH.out 3 (by omega) v (Below.refl _ _) _ (dS _ _ _ _ _)
  ·skip
   obtain ⟨p2, y2, rfl, r2⟩ : kK w.heap.size td2 v x9 := bJ.out 2 (by omega) (bq.out _ rfl ⟨2, Ground.data⟩ (by simp) rfl)
   obtain ⟨p3, y3, rfl, r3⟩ : kK w.heap.size td3 v x10 := bJ.out 3 (by omega) (bq.out _ rfl ⟨3, Ground.data⟩ (by simp) rfl)
   unfold Nd.val at *
   go_simp
   exact cH.out 4 (by omega) _ (bA) _ (tQ uX r2 r3)
  ·have gg : mY w.heap.size Ps v x11 := bJ.out 4 (by omega) (bq.out _ rfl ⟨4, Ground.data⟩ (by simp) rfl)
   obtain ⟨g, rfl, _⟩ := id gg
   go_simp
   refine (aJ _ _ _ _ _ _).mono ?_
   rintro e v2 ⟨rfl, hb⟩
   exact cH.out 5 (by omega) v2 hb _ (dG (dj gg hb) (by decide) _ _ _)
  ·skip
   obtain ⟨p5, y5, rfl, r5⟩ : kK w.heap.size td5 v x12 := bJ.out 5 (by omega) (bq.out _ rfl ⟨5, Ground.data⟩ (by simp) rfl)
   unfold Nd.val at *
   go_simp
   exact cH.out 6 (by omega) _ (bA) _ (oA uX r5)
  ·have gg : mY w.heap.size Pq v x13 := bJ.out 6 (by omega) (bq.out _ rfl ⟨6, Ground.data⟩ (by simp) rfl)
   obtain ⟨g, rfl, _⟩ := id gg
   go_simp
   refine (aJ _ _ _ _ _ _).mono ?_
   rintro e v2 ⟨rfl, hb⟩
   exact cH.out 7 (by omega) v2 hb _ (dG (dj gg hb) (by decide) _ _ _)
  ·skip
   obtain ⟨p7, y7, rfl, r7⟩ : kK w.heap.size td7 v x14 := bJ.out 7 (by omega) (bq.out _ rfl ⟨7, Ground.data⟩ (by simp) rfl)
   unfold Nd.val at *
   go_simp
   exact cH.out 8 (by omega) _ (bA) _ (oA uX r7)
  ·have gg : mY w.heap.size Pp v x15 := bJ.out 8 (by omega) (bq.out _ rfl ⟨8, Ground.data⟩ (by simp) rfl)
   obtain ⟨g, rfl, _⟩ := id gg
   go_simp
   refine (aJ _ _ _ _ _ _).mono ?_
   rintro e v2 ⟨rfl, hb⟩
   exact cH.out 9 (by omega) v2 hb _ (dG (dj gg hb) (by decide) _ _ _)
  ·skip
   obtain ⟨p0, y0, rfl, r0⟩ : kK w.heap.size td0 v x7 := bJ.out 0 (by omega) (bq.out _ rfl ⟨0, Ground.data⟩ (by simp) rfl)
   obtain ⟨p1, y1, rfl, r1⟩ : kK w.heap.size td1 v x8 := bJ.out 1 (by omega) (bq.out _ rfl ⟨1, Ground.data⟩ (by simp) rfl)
   obtain ⟨p9, y9, rfl, r9⟩ : kK w.heap.size td9 v x16 := bJ.out 9 (by omega) (bq.out _ rfl ⟨9, Ground.data⟩ (by simp) rfl)
   unfold Nd.val at *
   go_simp
   exact cH.out 10 (by omega) _ (bA) _ (C9 uX r0 r1 r9)
  ·have gg : mY w.heap.size CD v x17 := bJ.out 10 (by omega) (bq.out _ rfl ⟨10, Ground.data⟩ (by simp) rfl)
   obtain ⟨g, rfl, _⟩ := id gg
   go_simp
   refine (bZ _ _ _ _ _ _ _).mono ?_
   rintro e v2 ⟨rfl, hb⟩
   exact cH.out 11 (by omega) v2 hb _ (dG (dj gg hb) (by decide) _ _ _)
  ·go_simp
   refine (gV _ _ _).mono ?_
   rintro e v2 ⟨rfl, hb⟩
   exact cH.out 12 (by omega) v2 hb _ (dS _ _ _ _ _)
  ·go_simp
   refine (gV _ _ _).mono ?_
   rintro e v2 ⟨rfl, hb⟩
   exact cH.out 13 (by omega) v2 hb _ (dS _ _ _ _ _)
  ·go_simp
   exact cH.out 14 (by omega) v (Below.refl _ _) _ (dS _ _ _ _ _)
  ·go_simp
   exact cH.out 15 (by omega) v (Below.refl _ _) _ (dS _ _ _ _ _)
  ·skip
   obtain ⟨p14, y14, rfl, r14⟩ : kK w.heap.size GD v x21 := bJ.out 14 (by omega) (bq.out _ rfl ⟨14, Ground.data⟩ (by simp) rfl)
   obtain ⟨p15, y15, rfl, r15⟩ : kK w.heap.size GC v x22 := bJ.out 15 (by omega) (bq.out _ rfl ⟨15, Ground.data⟩ (by simp) rfl)
   unfold Nd.val at *
   go_simp
   exact cH.out 16 (by omega) _ (bA) _ (tQ uX r14 r15)
  ·have gg : mY w.heap.size CC v x23 := bJ.out 16 (by omega) (bq.out _ rfl ⟨16, Ground.data⟩ (by simp) rfl)
   obtain ⟨g, rfl, _⟩ := id gg
   go_simp
   refine (aJ _ _ _ _ _ _).mono ?_
   rintro e v2 ⟨rfl, hb⟩
   exact cH.out 17 (by omega) v2 hb _ (dG (dj gg hb) (by decide) _ _ _)
  ·skip
   obtain ⟨p17, y17, rfl, r17⟩ : kK w.heap.size GB v x24 := bJ.out 17 (by omega) (bq.out _ rfl ⟨17, Ground.data⟩ (by simp) rfl)
   unfold Nd.val at *
   go_simp
   exact cH.out 18 (by omega) _ (bA) _ (oA uX r17)
  ·have gg : mY w.heap.size CB v x25 := bJ.out 18 (by omega) (bq.out _ rfl ⟨18, Ground.data⟩ (by simp) rfl)
   obtain ⟨g, rfl, _⟩ := id gg
   go_simp
   refine (aJ _ _ _ _ _ _).mono ?_
   rintro e v2 ⟨rfl, hb⟩
   exact cH.out 19 (by omega) v2 hb _ (dG (dj gg hb) (by decide) _ _ _)
  ·skip
   obtain ⟨p12, y12, rfl, r12⟩ : kK w.heap.size GG v x19 := bJ.out 12 (by omega) (bq.out _ rfl ⟨12, Ground.data⟩ (by simp) rfl)
   obtain ⟨p13, y13, rfl, r13⟩ : kK w.heap.size GF v x20 := bJ.out 13 (by omega) (bq.out _ rfl ⟨13, Ground.data⟩ (by simp) rfl)
   obtain ⟨p19, y19, rfl, r19⟩ : kK w.heap.size GA v x26 := bJ.out 19 (by omega) (bq.out _ rfl ⟨19, Ground.data⟩ (by simp) rfl)
   unfold Nd.val at *
   go_simp
   exact cH.out 20 (by omega) _ (bA) _ (C9 uX r12 r13 r19)
  ·have gg : mY w.heap.size CA v x27 := bJ.out 20 (by omega) (bq.out _ rfl ⟨20, Ground.data⟩ (by simp) rfl)
   obtain ⟨g, rfl, _⟩ := id gg
   go_simp
   refine (bZ _ _ _ _ _ _ _).mono ?_
   rintro e v2 ⟨rfl, hb⟩
   exact cH.out 21 (by omega) v2 hb _ (dG (dj gg hb) (by decide) _ _ _)
  ·go_simp
   refine (gV _ _ _).mono ?_
   rintro e v2 ⟨rfl, hb⟩
   exact cH.out 22 (by omega) v2 hb _ (dS _ _ _ _ _)
  ·go_simp
   exact cH.out 23 (by omega) v (Below.refl _ _) _ (dS _ _ _ _ _)
  ·skip
   obtain ⟨p23, y23, rfl, r23⟩ : kK w.heap.size Gx v x30 := bJ.out 23 (by omega) (bq.out _ rfl ⟨23, Ground.data⟩ (by simp) rfl)
   unfold Nd.val at *
   go_simp
   exact cH.out 24 (by omega) _ (bA) _ (oA uX r23)
  ·have gg : mY w.heap.size Cz v x31 := bJ.out 24 (by omega) (bq.out _ rfl ⟨24, Ground.data⟩ (by simp) rfl)
   obtain ⟨g, rfl, _⟩ := id gg
   go_simp
   refine (aJ _ _ _ _ _ _).mono ?_
   rintro e v2 ⟨rfl, hb⟩
   exact cH.out 25 (by omega) v2 hb _ (dG (dj gg hb) (by decide) _ _ _)
  ·skip
   obtain ⟨p25, y25, rfl, r25⟩ : kK w.heap.size Gv v x32 := bJ.out 25 (by omega) (bq.out _ rfl ⟨25, Ground.data⟩ (by simp) rfl)
   unfold Nd.val at *
   go_simp
   exact cH.out 26 (by omega) _ (bA) _ (oA uX r25)
  ·have gg : mY w.heap.size Cy v x33 := bJ.out 26 (by omega) (bq.out _ rfl ⟨26, Ground.data⟩ (by simp) rfl)
   obtain ⟨g, rfl, _⟩ := id gg
   go_simp
   refine (aJ _ _ _ _ _ _).mono ?_
   rintro e v2 ⟨rfl, hb⟩
   exact cH.out 27 (by omega) v2 hb _ (dG (dj gg hb) (by decide) _ _ _)
  ·skip
   obtain ⟨p22, y22, rfl, r22⟩ : kK w.heap.size Gy v x29 := bJ.out 22 (by omega) (bq.out _ rfl ⟨22, Ground.data⟩ (by simp) rfl)
   obtain ⟨p27, y27, rfl, r27⟩ : kK w.heap.size Gu v x34 := bJ.out 27 (by omega) (bq.out _ rfl ⟨27, Ground.data⟩ (by simp) rfl)
   unfold Nd.val at *
   go_simp
   exact cH.out 28 (by omega) _ (bA) _ (tQ uX r22 r27)
  ·have gg : mY w.heap.size Cw v x35 := bJ.out 28 (by omega) (bq.out _ rfl ⟨28, Ground.data⟩ (by simp) rfl)
   obtain ⟨g, rfl, _⟩ := id gg
   go_simp
   refine (bZ _ _ _ _ _ _ _).mono ?_
   rintro e v2 ⟨rfl, hb⟩
   exact cH.out 29 (by omega) v2 hb _ (dG (dj gg hb) (by decide) _ _ _)
  ·go_simp
   refine (gV _ _ _).mono ?_
   rintro e v2 ⟨rfl, hb⟩
   exact cH.out 30 (by omega) v2 hb _ (dS _ _ _ _ _)
  ·go_simp
   refine (gV _ _ _).mono ?_
   rintro e v2 ⟨rfl, hb⟩
   exact cH.out 31 (by omega) v2 hb _ (dS _ _ _ _ _)
  ·go_simp
   exact cH.out 32 (by omega) v (Below.refl _ _) _ (dS _ _ _ _ _)
  ·skip
   obtain ⟨p32, y32, rfl, r32⟩ : kK w.heap.size Gq v x39 := bJ.out 32 (by omega) (bq.out _ rfl ⟨32, Ground.data⟩ (by simp) rfl)
   unfold Nd.val at *
   go_simp
   exact cH.out 33 (by omega) _ (bA) _ (oA uX r32)
  ·have gg : mY w.heap.size Cv v x40 := bJ.out 33 (by omega) (bq.out _ rfl ⟨33, Ground.data⟩ (by simp) rfl)
   obtain ⟨g, rfl, _⟩ := id gg
   go_simp
   refine (aJ _ _ _ _ _ _).mono ?_
   rintro e v2 ⟨rfl, hb⟩
   exact cH.out 34 (by omega) v2 hb _ (dG (dj gg hb) (by decide) _ _ _)
  ·skip
   obtain ⟨p34, y34, rfl, r34⟩ : kK w.heap.size Gp v x41 := bJ.out 34 (by omega) (bq.out _ rfl ⟨34, Ground.data⟩ (by simp) rfl)
   unfold Nd.val at *
   go_simp
   exact cH.out 35 (by omega) _ (bA) _ (oA uX r34)
  ·have gg : mY w.heap.size Cu v x42 := bJ.out 35 (by omega) (bq.out _ rfl ⟨35, Ground.data⟩ (by simp) rfl)
   obtain ⟨g, rfl, _⟩ := id gg
   go_simp
   refine (aJ _ _ _ _ _ _).mono ?_
   rintro e v2 ⟨rfl, hb⟩
   exact cH.out 36 (by omega) v2 hb _ (dG (dj gg hb) (by decide) _ _ _)
  ·go_simp
   exact cH.out 37 (by omega) v (Below.refl _ _) _ (dS _ _ _ _ _)
  ·go_simp
   exact cH.out 38 (by omega) v (Below.refl _ _) _ (dS _ _ _ _ _)
  ·skip
   obtain ⟨p37, y37, rfl, r37⟩ : kK w.heap.size Gm v x44 := bJ.out 37 (by omega) (bq.out _ rfl ⟨37, Ground.data⟩ (by simp) rfl)
   obtain ⟨p38, y38, rfl, r38⟩ : kK w.heap.size Gl v x45 := bJ.out 38 (by omega) (bq.out _ rfl ⟨38, Ground.data⟩ (by simp) rfl)
   unfold Nd.val at *
   go_simp
   exact cH.out 39 (by omega) _ (bA) _ (tQ uX r37 r38)
  ·have gg : mY w.heap.size Ct v x46 := bJ.out 39 (by omega) (bq.out _ rfl ⟨39, Ground.data⟩ (by simp) rfl)
   obtain ⟨g, rfl, _⟩ := id gg
   go_simp
   refine (aJ _ _ _ _ _ _).mono ?_
   rintro e v2 ⟨rfl, hb⟩
   exact cH.out 40 (by omega) v2 hb _ (dG (dj gg hb) (by decide) _ _ _)
  ·skip
   obtain ⟨p40, y40, rfl, r40⟩ : kK w.heap.size Gk v x47 := bJ.out 40 (by omega) (bq.out _ rfl ⟨40, Ground.data⟩ (by simp) rfl)
   unfold Nd.val at *
   go_simp
   exact cH.out 41 (by omega) _ (bA) _ (oA uX r40)
  ·have gg : mY w.heap.size Cs v x48 := bJ.out 41 (by omega) (bq.out _ rfl ⟨41, Ground.data⟩ (by simp) rfl)
   obtain ⟨g, rfl, _⟩ := id gg
   go_simp
   refine (aJ _ _ _ _ _ _).mono ?_
   rintro e v2 ⟨rfl, hb⟩
   exact cH.out 42 (by omega) v2 hb _ (dG (dj gg hb) (by decide) _ _ _)
  ·skip
   obtain ⟨p36, y36, rfl, r36⟩ : kK w.heap.size Gn v x43 := bJ.out 36 (by omega) (bq.out _ rfl ⟨36, Ground.data⟩ (by simp) rfl)
   obtain ⟨p42, y42, rfl, r42⟩ : kK w.heap.size Gj v x49 := bJ.out 42 (by omega) (bq.out _ rfl ⟨42, Ground.data⟩ (by simp) rfl)
   unfold Nd.val at *
   go_simp
   exact cH.out 43 (by omega) _ (bA) _ (tQ uX r36 r42)
  ·have gg : mY w.heap.size Cr v x50 := bJ.out 43 (by omega) (bq.out _ rfl ⟨43, Ground.data⟩ (by simp) rfl)
   obtain ⟨g, rfl, _⟩ := id gg
   go_simp
   refine (aJ _ _ _ _ _ _).mono ?_
   rintro e v2 ⟨rfl, hb⟩
   exact cH.out 44 (by omega) v2 hb _ (dG (dj gg hb) (by decide) _ _ _)
  ·skip
   obtain ⟨p30, y30, rfl, r30⟩ : kK w.heap.size Gs v x37 := bJ.out 30 (by omega) (bq.out _ rfl ⟨30, Ground.data⟩ (by simp) rfl)
   obtain ⟨p31, y31, rfl, r31⟩ : kK w.heap.size Gr v x38 := bJ.out 31 (by omega) (bq.out _ rfl ⟨31, Ground.data⟩ (by simp) rfl)
   obtain ⟨p44, y44, rfl, r44⟩ : kK w.heap.size Gi v x51 := bJ.out 44 (by omega) (bq.out _ rfl ⟨44, Ground.data⟩ (by simp) rfl)
   unfold Nd.val at *
   go_simp
   exact cH.out 45 (by omega) _ (bA) _ (C9 uX r30 r31 r44)
  ·have gg : mY w.heap.size Cq v x52 := bJ.out 45 (by omega) (bq.out _ rfl ⟨45, Ground.data⟩ (by simp) rfl)
   obtain ⟨g, rfl, _⟩ := id gg
   go_simp
   refine (bZ _ _ _ _ _ _ _).mono ?_
   rintro e v2 ⟨rfl, hb⟩
   exact cH.out 46 (by omega) v2 hb _ (dG (dj gg hb) (by decide) _ _ _)
  ·skip
   obtain ⟨p11, y11, rfl, r11⟩ : kK w.heap.size GH v x18 := bJ.out 11 (by omega) (bq.out _ rfl ⟨11, Ground.data⟩ (by simp) rfl)
   obtain ⟨p21, y21, rfl, r21⟩ : kK w.heap.size Gz v x28 := bJ.out 21 (by omega) (bq.out _ rfl ⟨21, Ground.data⟩ (by simp) rfl)
   obtain ⟨p29, y29, rfl, r29⟩ : kK w.heap.size Gt v x36 := bJ.out 29 (by omega) (bq.out _ rfl ⟨29, Ground.data⟩ (by simp) rfl)
   obtain ⟨p46, y46, rfl, r46⟩ : kK w.heap.size Gh v x53 := bJ.out 46 (by omega) (bq.out _ rfl ⟨46, Ground.data⟩ (by simp) rfl)
   unfold Nd.val at *
   go_simp
   exact cH.out 47 (by omega) _ (bA) _ (PJ uX r11 r21 r29 r46)
  ·have gg : mY w.heap.size my v x54 := bJ.out 47 (by omega) (bq.out _ rfl ⟨47, Ground.data⟩ (by simp) rfl)
   go_simp
   exact cH.out 48 (by omega) v (Below.refl _ _) _ gg
 ·intro a v bS ku cM iu fr
  obtain ⟨_, _, hS, _⟩ := iu
  have gg : mY w.heap.size Pr v (a.eval (.tmp 0)) := fr 48 (by show 48 < 49; omega)
  have HB := aa (BW.out.trans (hS.mono BW.out.size))
  obtain ⟨tm, df⟩ := a
  obtain ⟨x0, x1, x2, x3, x4, x5, x6, x7, x8, x9, x10, x11, x12, x13, x14, x15, x16, x17, x18, x19, x20, x21, x22, x23, x24, x25, x26, x27, x28, x29, x30, x31, x32, x33, x34, x35, x36, x37, x38, x39, x40, x41, x42, x43, x44, x45, x46, x47, x48, x49, x50, x51, x52, x53, x54, rfl⟩ := KI tm bS
  obtain rfl : df = [] := ku
  have NT : Hid (mY w.heap.size my v x0) := gg
  clear fr cM gg bS hS
  obtain ⟨g, hg, _⟩ := id NT.out
  go_wp2
  go_ret
  exact ⟨_, rfl, NT.out, HB.out⟩
section
open Go Go.RowKit
def kq : List Nd → Prop
 |[] => True
 |T :: l => T.Fine ∧ kq l
theorem zl : ∀ {Ts : List Nd} {i : Nat}, kq Ts → i < Ts.length → (ct Ts i).Fine
 |[], _, _, hi => absurd hi (Nat.not_lt_zero _)
 |T :: l, 0, h, _ => h.1
 |T :: l, i + 1, h, hi => zl (Ts := l) h.2 (by simpa using hi)
theorem eI {k n : Int} {s : ByteArray} {Ts : List Nd} (hk : -9223372036854775808 ≤ k ∧ k ≤ 9223372036854775807) (hn : -9223372036854775808 ≤ n ∧ n ≤ 9223372036854775807) (hs : s.size ≤ 9223372036854775807) (hl : Ts.length ≤ 1000) (h : kq Ts) : (Nd.mk k n s Ts.length (ct Ts)).Fine :=
 ⟨hk, hn, hs, by omega, fun i hi => zl h hi⟩
theorem CM : td0.Fine := aL (by omega) (by omega) (by decide)
theorem CL : td1.Fine := aL (by omega) (by omega) (by decide)
theorem CJ : td2.Fine := aL (by omega) (by omega) (by decide)
theorem CI : td3.Fine := aL (by omega) (by omega) (by decide)
theorem Cp : kq Ps := ⟨CJ, CI, trivial⟩
theorem CG : td5.Fine := eI (by omega) (by omega) (by decide) (by decide) Cp
theorem Co : kq Pq := ⟨CG, trivial⟩
theorem CF : td7.Fine := eI (by omega) (by omega) (by decide) (by decide) Co
theorem Cn : kq Pp := ⟨CF, trivial⟩
theorem CE : td9.Fine := eI (by omega) (by omega) (by decide) (by decide) Cn
theorem zS : kq CD := ⟨CM, CL, CE, trivial⟩
theorem Ar : GH.Fine := eI (by omega) (by omega) (by decide) (by decide) zS
theorem Aq : GG.Fine := aL (by omega) (by omega) (by decide)
theorem Ao : GF.Fine := aL (by omega) (by omega) (by decide)
theorem An : GD.Fine := aL (by omega) (by omega) (by decide)
theorem Am : GC.Fine := aL (by omega) (by omega) (by decide)
theorem zR : kq CC := ⟨An, Am, trivial⟩
theorem Al : GB.Fine := eI (by omega) (by omega) (by decide) (by decide) zR
theorem zQ : kq CB := ⟨Al, trivial⟩
theorem Ak : GA.Fine := eI (by omega) (by omega) (by decide) (by decide) zQ
theorem zP : kq CA := ⟨Aq, Ao, Ak, trivial⟩
theorem Aj : Gz.Fine := eI (by omega) (by omega) (by decide) (by decide) zP
theorem Ai : Gy.Fine := aL (by omega) (by omega) (by decide)
theorem Ah : Gx.Fine := aL (by omega) (by omega) (by decide)
theorem zO : kq Cz := ⟨Ah, trivial⟩
theorem Ag : Gv.Fine := eI (by omega) (by omega) (by decide) (by decide) zO
theorem zN : kq Cy := ⟨Ag, trivial⟩
theorem Af : Gu.Fine := eI (by omega) (by omega) (by decide) (by decide) zN
theorem zM : kq Cw := ⟨Ai, Af, trivial⟩
theorem Ae : Gt.Fine := eI (by omega) (by omega) (by decide) (by decide) zM
theorem Ad : Gs.Fine := aL (by omega) (by omega) (by decide)
theorem Ac : Gr.Fine := aL (by omega) (by omega) (by decide)
theorem Ab : Gq.Fine := aL (by omega) (by omega) (by decide)
theorem zL : kq Cv := ⟨Ab, trivial⟩
theorem Aa : Gp.Fine := eI (by omega) (by omega) (by decide) (by decide) zL
theorem zK : kq Cu := ⟨Aa, trivial⟩
theorem z6 : Gn.Fine := eI (by omega) (by omega) (by decide) (by decide) zK
theorem zZ : Gm.Fine := aL (by omega) (by omega) (by decide)
theorem zY : Gl.Fine := aL (by omega) (by omega) (by decide)
theorem zJ : kq Ct := ⟨zZ, zY, trivial⟩
theorem zX : Gk.Fine := eI (by omega) (by omega) (by decide) (by decide) zJ
theorem zI : kq Cs := ⟨zX, trivial⟩
theorem zW : Gj.Fine := eI (by omega) (by omega) (by decide) (by decide) zI
theorem zH : kq Cr := ⟨z6, zW, trivial⟩
theorem zV : Gi.Fine := eI (by omega) (by omega) (by decide) (by decide) zH
theorem zG : kq Cq := ⟨Ad, Ac, zV, trivial⟩
theorem zU : Gh.Fine := eI (by omega) (by omega) (by decide) (by decide) zG
theorem vh (i : Nat) (h : i < 4) : (ct my i).Fine ∧ cZ (ct my i) = true := by
 rcases (by omega : i = 0 ∨ i = 1 ∨ i = 2 ∨ i = 3) with rfl | rfl | rfl | rfl
 ·exact ⟨Ar, by kernel_rfl⟩
 ·exact ⟨Aj, by kernel_rfl⟩
 ·exact ⟨Ae, by kernel_rfl⟩
 ·exact ⟨zU, by kernel_rfl⟩
theorem E3 : aw (fun i => (ct my i).cost) 4 ≤ 1000 := by decide
end
end Go.Proofs.YteaocammohcgoaaGreatDoor
