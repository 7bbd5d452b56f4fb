import Derived.Test.YteaocammohcgoaaGreatDoorVKbA
import Derived.BigQuiet
import Derived.Lib.Strings
import Derived.Deep.RegionWith
set_option linter.unusedVariables false
set_option maxHeartbeats 16000000
set_option maxRecDepth 100000
namespace Go.Proofs.YteaocammohcgoaaGreatDoor
open Go.RowKit
variable {G : Prop}
theorem bE0 (h : G := by
 rw [← hm] at sC
 have k_E14_1 := kk
 exact Xm) : G := h
theorem bE1 (h : G := by
 go_roundg s1.size
 case rel => exact ⟨d + 1, _, rfl, by have := bR.out; omega, rfl, by omega, ur (t := 1) bM (by omega) (by omega) (by omega) (fun h => by first | rfl | omega), (show aY kk len s1.size s1.data.toList (d + 1) = res by rw [pc Pz.out, sC.out, FR.out, if_neg (by omega)]), fP⟩
 case measure => have := bR.out; have := zN.out; omega) : G := h
theorem bE2 (h : G := by
 go_enter Tryz.func76, Tryz.ntmps76
 go_wp2_with (first | (go_at_call 97; refine (lj _ _).mono ?_; rintro e w' ⟨rfl, rfl⟩) | (go_at_call 98; refine (Ba _ _ HS.out).mono ?_; rw [HN.out]; rintro e w' ⟨rfl, rfl⟩) | (go_at_call 99; refine (AH _ _ HR.out).mono ?_; rintro e w' ⟨rfl, rfl⟩))
 go_ret
 exact ⟨aw ba.out.symm, rfl⟩) : G := h
theorem OW (h : G := by
 cases dn : aR s
 all_goals go_enter Tryz.func57, Tryz.ntmps57
 all_goals go_wp2_with (go_at_call 76; refine (rQ _ _ HS.out (HR _).out).mono ?_; rw [dn]; rintro e w1 ⟨rfl, rfl⟩)
 all_goals go_ret
 all_goals exact ⟨aw (by unfold DJ; simp [dn]), (HB _).out⟩) : G := h
theorem bE4 (h : G := by
 go_enter Tryz.func58, Tryz.ntmps58
 go_wp2_with fail
 go_region_with (go_at_call 78; refine (HL.out _ (HB _).out.drew).mono ?_; rw [← e8.out]; rintro e w1 ⟨rfl, hb1⟩)
 all_goals go_wp2
 all_goals go_ret
 all_goals exact ⟨rfl, (HB _).out.drew.trans (hb1.mono (by simp))⟩) : G := h
theorem Qr (h : G := by
 go_enter Tryz.func56, Tryz.ntmps56
 go_wp2
 all_goals go_ret
 all_goals refine ⟨aw ?_, (HB _).out⟩
 all_goals (rw [Bool.eq_iff_iff]; simp [qT])
 all_goals omega) : G := h
theorem JQ (h : G := by
 go_enter Tryz.func100, Tryz.ntmps100
 go_wp2
 all_goals go_ret
 all_goals refine ⟨aw ?_, rfl⟩
 all_goals (rw [Bool.eq_iff_iff]; simp [dY])
 all_goals omega) : G := h
theorem bE7 (h : G := by
 go_roundg (s1.extract 1 s1.size).size
 case rel => exact ⟨d + t, _, rfl, by have := bR.out; omega, rfl, by omega, ur bM (by omega) (by omega) (by omega) (fun h => by first | rfl | omega), (by rw [pc J3.out, sC.out, FR.out]; exact (gi _ _ _ (by rw [List.length_tail]; omega)).symm), fP⟩
 case measure => have := bR.out; have := zN.out; omega) : G := h
theorem bE8 (h : G := by
 go_wp2
 go_roundg (s1.extract 1 s1.size).size
 case rel => exact ⟨d, _, rfl, by have := bR.out; omega, rfl, by omega, Dz (by omega) (by omega), (by rw [pc J3.out, sC.out, FR.out, Nat.add_zero]; exact (gi _ _ _ (by rw [List.length_tail]; omega)).symm), fP⟩
 case measure => have := bR.out; have := zN.out; omega) : G := h
theorem bE9 (h : G := by
 go_roundg (m - (t + 1))
 case rel => exact ⟨t + 1, rfl, by omega, by go_num, HY.out HO.out, fP⟩
 case measure => have := HG2.out; omega) : G := h
theorem bE10 (h : G := by
 rw [fP.cell (p := ⟨g, _, none⟩) hg, show off + d * 4 + t * 4 = off + (d + t) * 4 by omega]; exact bM (d + t) (by omega) (by omega)) : G := h
theorem Xp (h : G := by
 have hrz : 1 ≤ r.length := by
  have := HQ.out
  cases r with
  |nil => cases this
  |cons => simp
 have J3 : Hid (((s.extract 1 s.size).extract 1 (s.extract 1 s.size).size).data.toList = r.tail) := by unfold Hid; rw [ry, Pz.out]
 have eT : (s.extract 1 s.size).size = r.length := by rw [← fu, Pz.out]
 have ti : (1 : Int) ≤ ((s.extract 1 s.size).size : Int) := by omega
 have vN := aa eT
 have bR : Hid (((s.extract 1 s.size).extract 1 (s.extract 1 s.size).size).size + 2 ≤ s.size ∧ s.size ≤ 100) := by
  unfold Hid; rw [← fu, J3.out, List.length_tail]; have := wj.out; omega
 clear eT oZ
 generalize s.extract 1 s.size = s1 at *
 go_quiet (fail)
 go_wp2
 clear Nt J6
 first
 |clear k_E11_0
  have Iy : ∃ m : Nat, m = min 1 (len - d) := ⟨_, rfl⟩
  obtain ⟨m, hm⟩ := Iy
  have EF : m ≤ len - d := by omega
  have Gd : (min 1 ((len - d : Nat) : Int) : Int) = (m : Int) := by omega
  exact bE0
 |clear k_E11_1
  have Iy : ∃ m : Nat, m = len - d := ⟨_, rfl⟩
  obtain ⟨m, hm⟩ := Iy
  have EF : m ≤ len - d := by omega
  have hml2 : len - d ≤ m := by omega
  exact bE0) : G := h
theorem Xo (h : G := by
 obtain rfl := ha (by omega)
 have zr : wr.cell? ⟨g, off + d * 4 + t * 4, none⟩ = some (.int .i64 (kk (d + t))) := by
  exact bE10
 have HY : Hid (dY (kk (d + t)) s[0].toNat = true → ∀ i, i < t + 1 → dY (kk (d + i)) s[0].toNat = true) := fun h i hi => by
  by_cases e : i = t
  ·subst e; exact h
  ·exact bl.out i (by omega)
 clear bl
 first
 |clear k_E12_0
  have P5 : t < 1 := by omega
  have k_E15_0 := kk
  exact Xl
 |clear k_E12_1
  have k_E15_1 := kk
  exact Xl) : G := h
theorem Xn (h : G := by
 obtain ⟨t, Tq, ht, rfl, bl, fP⟩ := hrel
 have HG2 := aa Tq
 clear Tq
 have leave : ∀ y4 : t = m ∨ dY (kk (d + t)) s[0].toNat = false, gI kk s[0].toNat m d = t := fun y4 => yM bl.out ht y4
 have yy := aa leave
 clear leave
 by_cases bN : t < m
 first
 |clear k_E13_0
  ·have k_E12_0 := kk
   exact Xo
  ·have M4 : t = m := by omega
   have Yh := yy.out (.inl M4)
   have FR := aa Yh
   clear Yh yy bl
   by_cases TG : d < len
   ·obtain rfl := ha TG
    subst M4
    obtain rfl : t = 1 := by have := HM.out; omega
    go_wp2
    ·exact bE1
    ·exact bE1
   ·obtain rfl : d = len := by omega
    obtain rfl : m = 0 := by omega
    obtain rfl : t = 0 := by omega
    clear M4
    go_wp2
    go_ret
    exact ⟨aw (by rw [sC.out, FR.out]; rfl), fP⟩
 |clear k_E13_1
  ·have k_E12_1 := kk
   exact Xo
  ·have M4 : t = m := by omega
   have Yh := yy.out (.inl M4)
   have FR := aa Yh
   clear Yh yy bl
   by_cases TG : d < len
   ·obtain rfl := ha TG
    subst M4
    go_wp2
    ·exact bE7
    ·exact bE7
   ·obtain rfl : d = len := by omega
    obtain rfl : m = 0 := by omega
    obtain rfl : t = 0 := by omega
    clear M4
    cases a
    ·exact bE8
    ·exact bE8) : G := h
theorem Xm (h : G := by
 have HM := aa hm
 clear hm
 go_loopg [8] m (fun k2 i wx => ∃ (t : Nat), k2 = m - t ∧ t ≤ m ∧ i = .int .i64 t ∧ Hid (∀ i, i < t → dY (kk (d + i)) s[0].toNat = true) ∧ Below w.heap.size w wx)
 first
 |clear k_E14_0
  case atStart => exact ⟨0, by omega, by omega, rfl, (fun i hi => by omega), hb⟩
  case round =>
   have k_E13_0 := kk
   exact Xn
 |clear k_E14_1
  case atStart => exact ⟨0, by omega, by omega, rfl, (fun i hi => by omega), (show Below w.heap.size w _ from (hb.trans (show Below w.heap.size _ _ from vC _ _ _)))⟩
  case round =>
   have k_E13_1 := kk
   exact Xn) : G := h
theorem Xl (h : G := by
 cases ho : dY (kk (d + t)) s[0].toNat
 all_goals have HO := aa ho
 all_goals clear ho
 all_goals go_wp2_with (go_at_call 100; refine (Ec _ _ _).mono ?_; rw [HO.out]; rintro e _ ⟨rfl, rfl⟩)
 first
 |clear k_E15_0
  ·go_ret
   exact ⟨aw (by rw [sC.out, yy.out (.inr HO.out), if_pos P5]), fP⟩
  ·exact bE9
 |clear k_E15_1
  ·go_roundg (s1.extract 1 s1.size).size
   case rel => exact ⟨d + t, _, rfl, by have := bR.out; omega, rfl, by omega, AO bM (by omega) (by omega) (by omega) (fun h => by first | rfl | omega), (by rw [pc J3.out, sC.out, yy.out (.inr HO.out)]; exact (gi _ _ _ (by rw [List.length_tail]; omega)).symm), fP⟩
   case measure => have := bR.out; have := zN.out; omega
  ·exact bE9) : G := h
theorem rQ (s : ByteArray) (w : World) (hs : s.size ≤ maxLen) (hr : fk w 3 dg) :
  Calls Tryz.prog 76 #[.string s] w fun e w' => e = .returned (.bool (aR s)) ∧ w' = w := by
 have HS : Hid (s.size ≤ maxLen) := hs
 have HR : Hid (fk w 3 dg) := hr
 unfold maxLen at hs
 clear hr
 by_cases h1 : s.size = 0
 ·have hb : Hid (aR s = false) := by simp [Hid, aR, dt]; omega
  have he : s.toList.isEmpty = true := by rw [ByteArray.toList_eq, List.isEmpty_iff]; exact List.eq_nil_of_length_eq_zero (by simpa using h1)
  clear h1
  go_enter Tryz.func76, Tryz.ntmps76
  go_wp2
  go_ret
  exact ⟨aw hb.out.symm, rfl⟩
 have he : s.toList.isEmpty = false := by
  rw [ByteArray.toList_eq, List.isEmpty_eq_false_iff]
  intro h
  have := congrArg List.length h
  simp at this
  exact h1 (by simp [ByteArray.size, this])
 by_cases h2 : 40 < s.size
 ·have hb : Hid (aR s = false) := by simp [Hid, aR, dt]; omega
  go_enter Tryz.func76, Tryz.ntmps76
  go_wp2
  go_ret
  exact ⟨aw hb.out.symm, rfl⟩
 have h0 : 0 < s.size := by omega
 have hh := zo s h0
 cases hl : hZ s[0].toNat
 ·have hb : Hid (aR s = false) := by unfold Hid aR dt; rw [hh, hl]; simp
  clear hh
  go_enter Tryz.func76, Tryz.ntmps76
  go_wp2_with (go_at_call 97; refine (lj _ _).mono ?_; rintro e w' ⟨rfl, rfl⟩)
  go_ret
  exact ⟨aw hb.out.symm, rfl⟩
 ·have hb : Hid (dt s = decide (nb s.data.toList = s.size)) := by
   have : 1 ≤ s.size ∧ s.size ≤ 40 := by omega
   unfold Hid dt; rw [hh, hl]; simp [this]
  clear hh h1
  generalize hn : nb s.data.toList = n at hb
  have HN : Hid (nb s.data.toList = n) := hn
  clear hn
  by_cases hW : n = s.size
  ·subst hW
   have ba : Hid (aR s = !hasB dg s) := by simp [Hid, aR, hb.out]
   exact bE2
  ·have ba : Hid (aR s = false) := by simp [Hid, aR, hb.out, hW]
   have dE : ((n : Int) == (s.size : Int)) = false := by simp; omega
   exact bE2
theorem Jl (t : ByteArray) (l : List UInt8) : decide ((⟨l.toArray⟩ : ByteArray) = t) = (t.toList == l) := by
 rw [Bool.eq_iff_iff, ByteArray.toList_eq]
 simp only [decide_eq_true_eq, beq_iff_eq]
 constructor
 ·intro h; rw [← h]
 ·intro h; cases t; simp only at h; rw [← h]
theorem Mm (s : ByteArray) : iU s = if s.toList == [124, 124] then 1 else if s.toList == [38, 38] then 2 else
  if (s.toList == [61, 61] || s.toList == [33, 61] || s.toList == [60] || s.toList == [60, 61] || s.toList == [62] || s.toList == [62, 61]) then 3 else
  if (s.toList == [43] || s.toList == [45]) then 4 else if (s.toList == [42] || s.toList == [47] || s.toList == [37]) then 5 else 0 := by
 unfold iU
 simp only [bx, hasB, List.any_cons, List.any_nil, Bool.or_false, Jl, Bool.or_assoc]
theorem vB (s : ByteArray) (w : World) : Calls Tryz.prog 77 #[.string s] w fun e w' => e = .returned (.int .i64 (iU s : Int)) ∧ w' = w := by
 have HE := aa (Mm s)
 go_enter Tryz.func77, Tryz.ntmps77
 go_wp2
 all_goals go_ret
 all_goals refine ⟨ix ?_, rfl⟩
 all_goals rw [HE.out]
 all_goals simp_all
def dY (k : Int) (c : Nat) : Bool :=
 if c = 102 then decide (k = 2) else if c = 112 then decide (k = 3) else if c = 98 then decide (k = 4)
 else if c = 115 then decide (4 ≤ k) && decide (k ≤ 21) && !decide (k = 16) else if c = 101 then decide (22 ≤ k) && decide (k ≤ 29)
 else if c = 97 then decide (k = 25) || decide (k = 29) else if c = 99 then decide (k = 25) else if c = 111 then decide (k = 4) || decide (k = 10) else if c = 119 then decide (k = 16) else false
theorem Ec (k : Int) (c : Nat) (w : World) : Calls Tryz.prog 100 #[.int .i64 k, .int .u8 (c : Int)] w fun e w' => e = .returned (.bool (dY k c)) ∧ w' = w := by
 by_cases N9 : c = 102
 ·subst N9
  exact JQ
 by_cases N7 : c = 112
 ·subst N7
  exact JQ
 by_cases c98 : c = 98
 ·subst c98
  exact JQ
 by_cases N6 : c = 115
 ·subst N6
  exact JQ
 by_cases Oa : c = 101
 ·subst Oa
  exact JQ
 by_cases c97 : c = 97
 ·subst c97
  exact JQ
 by_cases c99 : c = 99
 ·subst c99
  exact JQ
 by_cases N8 : c = 111
 ·subst N8
  exact JQ
 by_cases N5 : c = 119
 ·subst N5
  exact JQ
 have HO : Hid (dY k c = false) := by unfold Hid dY; simp [N9, N7, c98, N6, Oa, c97, c99, N8, N5]
 have n102 : ((c : Int) == 102) = false := bn (by omega)
 have n112 : ((c : Int) == 112) = false := bn (by omega)
 have n98 : ((c : Int) == 98) = false := bn (by omega)
 have n115 : ((c : Int) == 115) = false := bn (by omega)
 have n101 : ((c : Int) == 101) = false := bn (by omega)
 have n97 : ((c : Int) == 97) = false := bn (by omega)
 have n99 : ((c : Int) == 99) = false := bn (by omega)
 have n111 : ((c : Int) == 111) = false := bn (by omega)
 have n119 : ((c : Int) == 119) = false := bn (by omega)
 clear N9 N7 c98 N6 Oa c97 c99 N8 N5
 go_enter Tryz.func100, Tryz.ntmps100
 go_wp2
 go_ret
 exact ⟨aw HO.out.symm, rfl⟩
def qT (k n : Int) : Bool :=
 if k = 2 then decide (0 ≤ n) && decide (n ≤ 3) else if k = 3 then decide (1 ≤ n) && decide (n ≤ 3) else if k = 7 then decide (n = 1) || decide (n = -1) else if k = 16 then decide (0 ≤ n) && decide (n ≤ 2)
 else if k = 22 then decide (0 ≤ n) && decide (n ≤ 999999999999999999) else if k = 23 then decide (n = 0) || decide (n = 1) else decide (n = 0)
def DJ (k n : Int) (s : ByteArray) : Bool :=
 if k = 2 ∨ k = 3 ∨ k = 5 ∨ k = 6 ∨ k = 7 ∨ k = 24 ∨ k = 25 then aR s else if k = 16 then ao s || (decide (n = 1) && aR s)
 else if k = 27 then s.toList == [45] || s.toList == [33] else if k = 28 then decide (0 < iU s) else ao s
theorem yV (k n : Int) (s : ByteArray) (a : Option Addr) (l c : Nat) (w : World) : Calls Tryz.prog 56 #[.agg #[.int .i64 k, .int .i64 n, .string s, .slice a l c]] w fun e w' => e = .returned (.bool (qT k n)) ∧ Below w.heap.size w w' := by
 have HB : ∀ o : Obj, Hid (Below w.heap.size w (w.alloc o)) := fun o => bA
 by_cases c2 : k = 2
 ·subst c2
  exact Qr
 by_cases c3 : k = 3
 ·subst c3
  exact Qr
 by_cases c7 : k = 7
 ·subst c7
  exact Qr
 by_cases Jo : k = 16
 ·subst Jo
  exact Qr
 by_cases oN : k = 22
 ·subst oN
  exact Qr
 by_cases oM : k = 23
 ·subst oM
  exact Qr
 have HO : Hid (qT k n = decide (n = 0)) := by unfold Hid qT; simp [c2, c3, c7, Jo, oN, oM]
 have n2 : (k == 2) = false := bn c2
 have n3 : (k == 3) = false := bn c3
 have n7 : (k == 7) = false := bn c7
 have n16 : (k == 16) = false := bn Jo
 have n22 : (k == 22) = false := bn oN
 have n23 : (k == 23) = false := bn oM
 clear c2 c3 c7 Jo oN oM
 go_enter Tryz.func56, Tryz.ntmps56
 go_wp2
 go_ret
 exact ⟨aw (by rw [HO.out, Bool.eq_iff_iff]; simp), (HB _).out⟩
theorem Mk (k n : Int) (s : ByteArray) (a : Option Addr) (l c : Nat) (w : World) (hs : s.size ≤ maxLen) (hg : 3 < w.heap.size) (hr : fk w 3 dg) :
  Calls Tryz.prog 57 #[.agg #[.int .i64 k, .int .i64 n, .string s, .slice a l c]] w fun e w' => e = .returned (.bool (DJ k n s)) ∧ Below w.heap.size w w' := by
 have HB : ∀ o : Obj, Hid (Below w.heap.size w (w.alloc o)) := fun o => bA
 have HS := aa hs
 have HR : ∀ o : Obj, Hid (fk (w.alloc o) 3 dg) := fun o i hi => ((HB o).out.cell (p := ⟨3, i, none⟩) hg).trans (hr i hi)
 clear hs hr hg
 by_cases c2 : k = 2
 ·subst c2
  exact OW
 by_cases c3 : k = 3
 ·subst c3
  exact OW
 by_cases c5 : k = 5
 ·subst c5
  exact OW
 by_cases c6 : k = 6
 ·subst c6
  exact OW
 by_cases c7 : k = 7
 ·subst c7
  exact OW
 by_cases c24 : k = 24
 ·subst c24
  exact OW
 by_cases c25 : k = 25
 ·subst c25
  exact OW
 by_cases Jo : k = 16
 ·subst Jo
  cases dn : aR s
  all_goals cases he : s.toList.isEmpty
  all_goals cases h1 : (n == 1)
  all_goals go_enter Tryz.func57, Tryz.ntmps57
  all_goals go_wp2_with (go_at_call 76; refine (rQ _ _ HS.out (HR _).out).mono ?_; rw [dn]; rintro e w1 ⟨rfl, rfl⟩)
  all_goals go_ret
  all_goals exact ⟨aw (by unfold DJ; simp only [ao, dn, he, pM h1]; rfl), (HB _).out⟩
 by_cases c27 : k = 27
 ·subst c27
  cases h1 : (s.toList == [45])
  all_goals cases h2 : (s.toList == [33])
  all_goals go_enter Tryz.func57, Tryz.ntmps57
  all_goals go_wp2
  all_goals go_ret
  all_goals exact ⟨aw (by unfold DJ; simp only [h1, h2]; rfl), (HB _).out⟩
 by_cases c28 : k = 28
 ·subst c28
  cases h1 : decide (0 < iU s)
  all_goals go_enter Tryz.func57, Tryz.ntmps57
  all_goals go_wp2_with (go_at_call 77; refine (vB _ _).mono ?_; rintro e w1 ⟨rfl, rfl⟩)
  all_goals go_ret
  all_goals exact ⟨aw (by unfold DJ; simp_all), (HB _).out⟩
 have HO : Hid (DJ k n s = ao s) := by unfold Hid DJ; simp [c2, c3, c5, c6, c7, c24, c25, Jo, c27, c28]
 have n2 : (k == 2) = false := bn c2
 have n3 : (k == 3) = false := bn c3
 have n5 : (k == 5) = false := bn c5
 have n6 : (k == 6) = false := bn c6
 have n7 : (k == 7) = false := bn c7
 have n24 : (k == 24) = false := bn c24
 have n25 : (k == 25) = false := bn c25
 have n16 : (k == 16) = false := bn Jo
 have n27 : (k == 27) = false := bn c27
 have n28 : (k == 28) = false := bn c28
 clear c2 c3 c5 c6 c7 c24 c25 Jo c27 c28
 cases he : s.toList.isEmpty
 all_goals go_enter Tryz.func57, Tryz.ntmps57
 all_goals go_wp2
 all_goals go_ret
 all_goals exact ⟨aw (by rw [HO.out]; simp [ao, he]), (HB _).out⟩
def gI (kk : Nat → Int) (c : Nat) : Nat → Nat → Nat
 |0, _ => 0
 |m + 1, d => if dY (kk d) c then gI kk c m (d + 1) + 1 else 0
def aY (kk : Nat → Int) (len : Nat) : Nat → List UInt8 → Nat → Bool
 |0, _, d => decide (d = len)
 |f + 1, [], d => decide (d = len)
 |f + 1, c :: r, d =>
  if r.head? = some 63 then aY kk len f r.tail (d + gI kk c.toNat (min 1 (len - d)) d)
  else if r.head? = some 42 then aY kk len f r.tail (d + gI kk c.toNat (len - d) d)
  else if gI kk c.toNat (min 1 (len - d)) d < 1 then false else aY kk len f r (d + gI kk c.toNat (min 1 (len - d)) d)
theorem fu (s : ByteArray) : s.data.toList.length = s.size := rfl
theorem vt (s : ByteArray) (a b : Nat) : (s.extract a b).data.toList = (s.data.toList.drop a).take (b - a) := Lib.extract_data s a b
theorem ry (s : ByteArray) : (s.extract 1 s.size).data.toList = s.data.toList.tail := by
 rw [vt, List.take_of_length_le (by rw [List.length_drop, fu]; omega), List.drop_one]
theorem rE (s : ByteArray) : s.data.toList.length = s.size := rfl
theorem mP (s : ByteArray) : s.toList.isEmpty = s.data.toList.isEmpty := by rw [ByteArray.toList_eq]
theorem Ew (s : ByteArray) (c : UInt8) (w : World) (hs : s.size ≤ 100) :
  Calls Tryz.prog 74 #[.string s, .string ⟨#[c]⟩] w fun e w' => e = .returned (.bool (decide (s.data.toList.head? = some c))) ∧ w' = w := by
 have HL := aa (vt s 0 1)
 have HZ := aa (rE s)
 go_enter Tryz.func74, Tryz.ntmps74
 go_wp2
 all_goals go_ret
 ·refine ⟨aw ?_, rfl⟩
  rw [ByteArray.toList_eq, HL.out]
  cases h : s.data.toList with
  |nil => rw [Bool.eq_iff_iff]; simp
  |cons x l => rw [Bool.eq_iff_iff]; simp
 ·refine ⟨aw ?_, rfl⟩
  cases h : s.data.toList with
  |nil => simp
  |cons x l => have := HZ.out; rw [h] at this; simp at this; omega
theorem Ng (s : ByteArray) (c : UInt8) (w : World) (hs : s.size ≤ 100) :
  Calls Tryz.prog 48 #[.string s, .string ⟨#[c]⟩] w fun e w' => e = .returned (.bool (decide (s.data.toList.head? = some c))) ∧ w' = w := by
 have HC := aa (fun w => Ew s c w hs)
 go_enter Tryz.func48, Tryz.ntmps48
 go_wp2_with (go_at_call 74; refine (HC.out _).mono ?_; rintro e w' ⟨rfl, rfl⟩)
 go_ret
 exact ⟨rfl, rfl⟩
theorem yM {kk : Nat → Int} {c : Nat} : ∀ {m t d : Nat}, (∀ i, i < t → dY (kk (d + i)) c = true) → t ≤ m → (t = m ∨ dY (kk (d + t)) c = false) → gI kk c m d = t
  | 0, t, d, _, h, _ => by simp [gI]; omega
  | m + 1, 0, d, _, _, h => by
    have h' : dY (kk d) c = false := by rcases h with h | h; omega; simpa using h
    simp [gI, h']
  | m + 1, t + 1, d, ha, hm, h => by
    have h0 : dY (kk d) c = true := by simpa using ha 0 (by omega)
    have := yM (kk := kk) (c := c) (m := m) (t := t) (d := d + 1) (fun i hi => by have := ha (i + 1) (by omega); rwa [show d + (i + 1) = d + 1 + i by omega] at this) (by omega)
      (by rcases h with h | h
          · exact .inl (by omega)
          · exact .inr (by rwa [show d + (t + 1) = d + 1 + t by omega] at h))
    simp [gI, h0, this]
theorem BG {kk : Nat → Int} {len d : Nat} {s : ByteArray} {c : UInt8} {r : List UInt8} (h : s.data.toList = c :: r) : aY kk len s.size s.data.toList d =
  if r.head? = some 63 then aY kk len r.length r.tail (d + gI kk c.toNat (min 1 (len - d)) d)
  else if r.head? = some 42 then aY kk len r.length r.tail (d + gI kk c.toNat (len - d) d)
  else if gI kk c.toNat (min 1 (len - d)) d < 1 then false else aY kk len r.length r (d + gI kk c.toNat (min 1 (len - d)) d) := by
 have hz : s.size = r.length + 1 := by rw [← fu, h]; rfl
 rw [hz, h]; rfl
theorem gi {kk : Nat → Int} {len : Nat} : ∀ (f : Nat) (l : List UInt8) (d : Nat), l.length ≤ f → aY kk len f l d = aY kk len l.length l d
 |0, l, d, h => by
  have : l = [] := List.eq_nil_of_length_eq_zero (by omega)
  subst this; rfl
 |f + 1, [], d, _ => rfl
 |f + 1, c :: r, d, h => by
  simp only [List.length_cons] at h ⊢
  simp only [aY]
  rw [gi f r.tail _ (by rw [List.length_tail]; omega), gi f r.tail _ (by rw [List.length_tail]; omega), gi f r _ (by omega),
   gi r.length r.tail _ (by rw [List.length_tail]; omega), gi r.length r.tail _ (by rw [List.length_tail]; omega)]
theorem vC (B : Nat) (w : World) (n : Nat) : Below B w (w.drewN n) := ⟨rfl, rfl, rfl, Nat.le_refl _, fun _ _ => rfl⟩
def Rest (w : World) (kk : Nat → Int) (len g off d : Nat) (v : Value) : Prop :=
 ∃ a cap, v = .slice a (len - d) cap ∧ len - d ≤ cap ∧ cap ≤ 9223372036854775807 ∧ (d < len → a = some ⟨g, off + d * 4, none⟩) ∧ ∀ i, d ≤ i → i < len → w.cell? ⟨g, off + i * 4, none⟩ = some (.int .i64 (kk i))
theorem AO {w : World} {kk : Nat → Int} {len g off d t cap : Nat} {a : Option Addr} (hc : ∀ i, d ≤ i → i < len → w.cell? ⟨g, off + i * 4, none⟩ = some (.int .i64 (kk i))) (h1 : t ≤ len - d) (h2 : len - d ≤ cap) (h3 : cap ≤ 9223372036854775807)
  (ha : d + t < len → a = some ⟨g, off + d * 4 + t * 4, none⟩) : Rest w kk len g off (d + t) (.slice a (len - d - t) (cap - t)) := by
 refine ⟨a, cap - t, by rw [show len - (d + t) = len - d - t by omega], by omega, by omega, fun h => ?_, fun i hi => hc i (by omega)⟩
 rw [ha h, show off + (d + t) * 4 = off + d * 4 + t * 4 by omega]
theorem ur {w : World} {kk : Nat → Int} {len g off d t l cap : Nat} {a : Option Addr} (hc : ∀ i, d ≤ i → i < len → w.cell? ⟨g, off + i * 4, none⟩ = some (.int .i64 (kk i))) (hl : l = len - (d + t)) (h2 : l ≤ cap) (h3 : cap ≤ 9223372036854775807)
  (ha : d + t < len → a = some ⟨g, off + d * 4 + t * 4, none⟩) : Rest w kk len g off (d + t) (.slice a l cap) := by
 refine ⟨a, cap, by rw [hl], by omega, by omega, fun h => ?_, fun i hi => hc i (by omega)⟩
 rw [ha h, show off + (d + t) * 4 = off + d * 4 + t * 4 by omega]
theorem Dz {w : World} {kk : Nat → Int} {len g off l cap : Nat} {a : Option Addr} (hl : l = 0) (h3 : cap ≤ 9223372036854775807) : Rest w kk len g off len (.slice a l cap) := by
 subst hl
 exact ⟨a, cap, by rw [Nat.sub_self], by omega, h3, fun h => by omega, fun i h1 h2 => by omega⟩
theorem pc {kk : Nat → Int} {len d : Nat} {s : ByteArray} {l : List UInt8} (h : s.data.toList = l) : aY kk len s.size s.data.toList d = aY kk len l.length l d := by
 subst h; rfl
theorem DX (kk : Nat → Int) (len g off : Nat) (form : ByteArray) (v : Value) (w : World) (hl : len ≤ 9223372036854775807) (hs : form.size ≤ 100) (hg : g < w.heap.size) (hr : Rest w kk len g off 0 v) :
  Calls Tryz.prog 78 #[v, .string form] w fun e w' => e = .returned (.bool (aY kk len form.size form.data.toList 0)) ∧ Below w.heap.size w w' := by
 obtain ⟨a0, N4, rfl, y8⟩ := hr
 have HR := aa y8
 generalize uV : aY kk len form.size form.data.toList 0 = res
 have Yb := aa uV
 clear y8 uV
 go_enter Tryz.func78, Tryz.ntmps78
 go_wp2
 go_loopg [0, 1] form.size (fun gk kids f wr => ∃ (d : Nat) (s : ByteArray), gk = s.size ∧ s.size ≤ 100 ∧ f = .string s ∧ d ≤ len ∧ Rest w kk len g off d kids ∧ Hid (aY kk len s.size s.data.toList d = res) ∧ Below w.heap.size w wr)
 case atStart => exact ⟨0, form, rfl, hs, rfl, by omega, ⟨a0, N4, rfl, HR.out⟩, Yb.out, Below.refl _ _⟩
 case round =>
  obtain ⟨d, s, rX, aD, rfl, hd, ⟨a, cap, rfl, IB, jw, ha, bM⟩, ay, hb⟩ := hrel
  clear HR Yb hs
  cases hz : s.toList.isEmpty
  ·obtain ⟨c, r, zk⟩ : ∃ c r, s.data.toList = c :: r := by
    cases h : s.data.toList with
    |nil => rw [mP, h] at hz; cases hz
    |cons c r => exact ⟨c, r, rfl⟩
   have b8 : s.size = r.length + 1 := by rw [← fu, zk]; rfl
   have h1s : (1 : Int) ≤ (s.size : Int) := by omega
   have h0s : 0 < s.size := by omega
   have fs : s[0]'h0s = c := by
    have : s.data.toList[0]'(by rw [zk]; simp) = c := by simp [zk]
    rw [← this]; rfl
   subst fs
   have Pz : Hid ((s.extract 1 s.size).data.toList = r) := by unfold Hid; rw [ry, zk]; rfl
   have oZ := aa (ay.out ▸ BG zk)
   have J6 := aa zk
   have wj := aa b8
   have zN := aa rX
   clear ay zk b8 rX
   have Nt : ∀ (x : UInt8) (W : World), Hid (Calls Tryz.prog 48 #[.string (s.extract 1 s.size), .string ⟨#[x]⟩] W fun e w' => e = .returned (.bool (decide (r.head? = some x))) ∧ w' = W) := fun x W => by
    have := Ng (s.extract 1 s.size) x W (by rw [← fu, Pz.out]; have := wj.out; omega)
    rw [Pz.out] at this
    exact this
   by_cases PX : r.head? = some 63
   ·have HQ := aa PX
    clear PX
    go_wp2_with (go_at_call 48; refine (Nt _ _).out.mono ?_; rw [decide_eq_true HQ.out]; rintro e _ ⟨rfl, rfl⟩)
    have sC : Hid (res = aY kk len r.length r.tail (d + gI kk s[0].toNat (min 1 (len - d)) d)) := by have := oZ.out; rw [if_pos HQ.out] at this; exact this
    have k_E11_0 := kk
    exact Xp
   by_cases q42 : r.head? = some 42
   ·have HQ := aa q42
    have Qw := aa PX
    clear q42 PX
    have P1 : Hid True := trivial
    go_wp2_with (go_at_call 48; first | (clear P1; refine (Nt 63 _).out.mono ?_; rw [decide_eq_false Qw.out]; rintro e _ ⟨rfl, rfl⟩) | (refine (Nt 42 _).out.mono ?_; rw [decide_eq_true HQ.out]; rintro e _ ⟨rfl, rfl⟩))
    have sC : Hid (res = aY kk len r.length r.tail (d + gI kk s[0].toNat (len - d) d)) := by have := oZ.out; rw [if_neg Qw.out, if_pos HQ.out] at this; exact this
    have k_E11_1 := kk
    exact Xp
   have Qw := aa PX
   have HQ := aa q42
   clear q42 PX
   have P1 : Hid True := trivial
   go_wp2_with (go_at_call 48; first | (clear P1; refine (Nt 63 _).out.mono ?_; rw [decide_eq_false Qw.out]; rintro e _ ⟨rfl, rfl⟩) | (refine (Nt 42 _).out.mono ?_; rw [decide_eq_false HQ.out]; rintro e _ ⟨rfl, rfl⟩))
   have sC : Hid (res = if gI kk s[0].toNat (min 1 (len - d)) d < 1 then false else aY kk len r.length r (d + gI kk s[0].toNat (min 1 (len - d)) d)) := by have := oZ.out; rw [if_neg Qw.out, if_neg HQ.out] at this; exact this
   have eT : (s.extract 1 s.size).size = r.length := by rw [← fu, Pz.out]
   have bR : Hid ((s.extract 1 s.size).size + 1 ≤ s.size ∧ s.size ≤ 100) := by unfold Hid; have := wj.out; omega
   clear eT oZ Nt J6
   generalize s.extract 1 s.size = s1 at *
   obtain ⟨m, hm⟩ : ∃ m : Nat, m = min 1 (len - d) := ⟨_, rfl⟩
   have EF : m ≤ len - d := by omega
   have Gd : (min 1 ((len - d : Nat) : Int) : Int) = (m : Int) := by omega
   rw [← hm] at sC
   have hm2 : m ≤ 1 := by omega
   have k_E14_0 := kk
   exact Xm
  ·have HF : Hid (res = decide (d = len)) := by
    have := ay.out
    rw [mP, List.isEmpty_iff] at hz
    have b8 : s.size = 0 := by rw [← rE, hz]; rfl
    rw [hz, b8] at this
    exact this.symm
   cases h0 : (((len - d : Nat) : Int) == 0)
   all_goals go_wp2
   all_goals go_ret
   all_goals refine ⟨aw ?_, hb⟩
   ·rw [HF.out, eq_comm, decide_eq_false_iff_not]; have := beq_eq_false_iff_ne.1 h0; omega
   ·rw [HF.out, eq_comm, decide_eq_true_eq]; have := beq_iff_eq.1 h0; omega
def ik : List ByteArray := [⟨#[]⟩, ⟨#[102, 42]⟩, ⟨#[112, 42, 98]⟩, ⟨#[]⟩, ⟨#[115, 42]⟩, ⟨#[101]⟩, ⟨#[101]⟩, ⟨#[]⟩, ⟨#[101, 101]⟩, ⟨#[97]⟩, ⟨#[101, 98, 111, 63]⟩, ⟨#[101, 63, 98]⟩, ⟨#[101, 63]⟩, ⟨#[99]⟩, ⟨#[99]⟩, ⟨#[119, 42]⟩, ⟨#[]⟩, ⟨#[]⟩, ⟨#[]⟩, ⟨#[101]⟩, ⟨#[101]⟩, ⟨#[101]⟩, ⟨#[]⟩, ⟨#[]⟩, ⟨#[]⟩, ⟨#[101, 42]⟩, ⟨#[101, 63]⟩, ⟨#[101]⟩, ⟨#[101, 101]⟩, ⟨#[101]⟩]
def gj : List ByteArray := [⟨#[98]⟩, ⟨#[101, 98]⟩, ⟨#[101, 101, 98]⟩]
def fW (k n : Int) : ByteArray := if k = 16 then gj.getD n.toNat ⟨#[]⟩ else ik.getD k.toNat ⟨#[]⟩
def uJ (T : Nd) : Bool := aY T.kk T.len (fW T.kind T.num).size (fW T.kind T.num).data.toList 0
def ko (T : Nd) : Bool := qT T.kind T.num && DJ T.kind T.num T.name && uJ T
theorem xV (k n : Int) : (fW k n).size ≤ 100 := by
 have h : ∀ l ∈ [gj, ik], ∀ i, (l.getD i ⟨#[]⟩).size ≤ 100 := by
  intro l hl i
  have hm : l.getD i ⟨#[]⟩ = ⟨#[]⟩ ∨ l.getD i ⟨#[]⟩ ∈ l := by
   by_cases hi : i < l.length
   ·right; rw [List.getD_eq_getElem?_getD, List.getElem?_eq_getElem hi]; simp
   ·left; rw [List.getD_eq_getElem?_getD, List.getElem?_eq_none (by omega)]; rfl
  rcases hm with h | h
  ·rw [h]; decide
  ·have : ∀ l ∈ [gj, ik], ∀ x ∈ l, x.size ≤ 100 := by decide
   exact this l hl _ h
 unfold fW
 split
 ·exact h _ (by simp) _
 ·exact h _ (by simp) _
theorem Dy {T : Nd} {w : World} {v : Value} {hi : Nat} (hr : Row 0 hi w T v) (h0 : 0 < hi) : ∃ g off, g < hi ∧ Rest w T.kk T.len g off 0 v := by
 obtain ⟨a, cap, rfl, cr, hq⟩ := aH.1 hr
 rcases hq with hq | ⟨g, off, rfl, _, hg, hq⟩
 ·exact ⟨0, 0, h0, a, cap, rfl, by omega, cr.2, fun h => by omega, fun i _ h => by omega⟩
 ·refine ⟨g, off, hg, some ⟨g, off, none⟩, cap, rfl, by omega, cr.2, fun h => by simp, fun i _ h => ?_⟩
  obtain ⟨u, e0, _⟩ := hq i h
  exact e0
structure qD (w : World) : Prop where
 words : fk w 3 dg
 kids : fk w 2 ik
 cases : fk w 1 gj
 lt : 3 < w.heap.size
theorem eR {w w' : World} (h : qD w) (hb : Below w.heap.size w w') : qD w' := by
 have := h.lt
 have hz := hb.size
 exact ⟨fun i hi => (hb.cell (p := ⟨3, i, none⟩) (by show 3 < _; omega)).trans (h.words i hi), fun i hi => (hb.cell (p := ⟨2, i, none⟩) (by show 2 < _; omega)).trans (h.kids i hi),
  fun i hi => (hb.cell (p := ⟨1, i, none⟩) (by show 1 < _; omega)).trans (h.cases i hi), by omega⟩
theorem uI (T : Nd) (k : Nat) (hk : T.kind = (k : Int)) (Cm : k ≤ 29) (kB : k = 16 → 0 ≤ T.num ∧ T.num ≤ 2) (w : World) (v : Value) (hi : Nat) (hf : T.Fine) (dF : hi ≤ w.heap.size) (lq : 0 < hi) (hr : Row 0 hi w T v) (ht : qD w) :
    Calls Tryz.prog 58 #[T.val v] w fun e w' => e = .returned (.bool (uJ T)) ∧ Below w.heap.size w w' := by
  obtain ⟨a, cap, hv, _⟩ := aH.1 hr
  have hn := T.fine_len hf
  have HB : ∀ o : Obj, Hid (Below w.heap.size w (w.alloc o)) := fun o => bA
  have bN := ht.lt
  have HL := aa (fun (W : World) (hb : Below w.heap.size w W) => by
    obtain ⟨g, off, hg, y8⟩ := Dy (ah hb dF hr) lq
    exact DX T.kk T.len g off (fW T.kind T.num) v W hn (xV _ _) (by have := hb.size; omega) y8)
  have e8 : Hid (uJ T = aY T.kk T.len (fW T.kind T.num).size (fW T.kind T.num).data.toList 0) := rfl
  unfold Nd.val
  subst hv
  by_cases NP : k = 16
  · subst NP
    obtain ⟨c0, c2⟩ := kB rfl
    obtain ⟨m, hm⟩ : ∃ m : Nat, T.num = (m : Int) := ⟨T.num.toNat, by omega⟩
    have wg : ∀ o : Obj, (w.alloc o).cell? ⟨1, m, none⟩ = some (.string (gj.getD m ⟨#[]⟩)) := fun o => ((HB o).out.cell (p := ⟨1, m, none⟩) (by show 1 < _; omega)).trans (ht.cases m (by show m < 3; omega))
    have Tx : fW T.kind T.num = gj.getD m ⟨#[]⟩ := by unfold fW; rw [hk, hm]; rfl
    rw [Tx] at HL e8
    rw [hk, hm]
    have Np : (m : Int) < 3 := by omega
    have S7 : (0 : Int) ≤ (m : Int) := by omega
    clear hf hr hk hm kB c0 c2 ht Tx
    generalize gj.getD m ⟨#[]⟩ = fo at *
    exact bE4
  · have wg : ∀ o : Obj, (w.alloc o).cell? ⟨2, k, none⟩ = some (.string (ik.getD k ⟨#[]⟩)) := fun o => ((HB o).out.cell (p := ⟨2, k, none⟩) (by show 2 < _; omega)).trans (ht.kids k (by show k < 30; omega))
    have dE : ((k : Int) == 16) = false := bn (by omega)
    have Tx : fW T.kind T.num = ik.getD k ⟨#[]⟩ := by unfold fW; rw [hk, if_neg (by omega)]; rfl
    rw [Tx] at HL e8
    rw [hk]
    have Np : (k : Int) < 30 := by omega
    have S7 : (0 : Int) ≤ (k : Int) := by omega
    clear hf hr hk kB ht Tx NP
    generalize T.num = tn at *
    generalize ik.getD k ⟨#[]⟩ = fo at *
    exact bE4
theorem sT (T : Nd) (k : Nat) (hk : T.kind = (k : Int)) (Cm : k ≤ 29) (w : World) (v : Value) (hi : Nat) (hf : T.Fine) (dF : hi ≤ w.heap.size) (lq : 0 < hi) (hr : Row 0 hi w T v) (ht : qD w) :
  Calls Tryz.prog 28 #[T.val v] w fun e w' => e = .returned (.bool (ko T)) ∧ Below w.heap.size w w' := by
 obtain ⟨a, cap, hv, _⟩ := aH.1 hr
 have hs := T.fine_name hf
 have HB : ∀ o : Obj, Hid (Below w.heap.size w (w.alloc o)) := fun o => bA
 have e8 : Hid (ko T = (qT T.kind T.num && DJ T.kind T.num T.name && uJ T)) := rfl
 have HK := aa (fun (hc : k = 16 → 0 ≤ T.num ∧ T.num ≤ 2) (W : World) (hb : Below w.heap.size w W) => uI T k hk Cm hc W v hi hf (by have := hb.size; omega) lq (ah hb dF hr) (eR ht hb))
 have HN := aa (fun (W : World) (hb : Below w.heap.size w W) => Mk T.kind T.num T.name a T.len cap W (by unfold maxLen; exact hs) (eR ht hb).lt (eR ht hb).words)
 have HC : Hid (qT T.kind T.num = true → k = 16 → 0 ≤ T.num ∧ T.num ≤ 2) := fun h e => by
  rw [hk, e] at h; simpa [qT] using h
 unfold Nd.val at *
 subst hv
 clear hf hr hs hk ht
 generalize T.kind = tk at *
 generalize T.num = tn at *
 generalize T.name = ts at *
 cases h1 : qT tk tn
 ·go_enter Tryz.func28, Tryz.ntmps28
  go_wp2_with (go_at_call 56; refine (yV _ _ _ _ _ _ _).mono ?_; rw [h1]; rintro e w1 ⟨rfl, hb1⟩)
  go_ret
  exact ⟨aw (by rw [e8.out, h1]; rfl), (HB _).out.trans (hb1.mono (by simp))⟩
 have nI := aa (HC.out h1)
 clear HC
 go_enter Tryz.func28, Tryz.ntmps28
 go_wp2_with (go_at_call 56; refine (yV _ _ _ _ _ _ _).mono ?_; rw [h1]; rintro e w1 ⟨rfl, hb1⟩; have eT := hb1.size; simp only [World.size_alloc] at eT; obtain ⟨eM, qN⟩ := eu hb1; have B1 := aa ((HB _).out.trans (hb1.mono (by simp))))
 have F1 : Hid (w1.cell? ⟨w.heap.size, 0, none⟩ = some (.int .i64 tk) ∧ w1.cell? ⟨w.heap.size, 1, none⟩ = some (.int .i64 tn) ∧ w1.cell? ⟨w.heap.size, 2, none⟩ = some (.string ts) ∧ w1.cell? ⟨w.heap.size, 3, none⟩ = some (.slice a T.len cap)) := by
  refine ⟨?_, ?_, ?_, ?_⟩ <;> (rw [eM _ _ (by simp)]; simp [go_sem])
 clear eM qN hb1
 cases h2 : DJ tk tn ts
 ·refine (HN.out _ B1.out).mono ?_
  rw [h2]
  rintro e w2 ⟨rfl, ba⟩
  go_wp2
  go_ret
  exact ⟨aw (by rw [e8.out, h1, h2]; rfl), B1.out.trans (ba.mono (by omega))⟩
 ·refine (HN.out _ B1.out).mono ?_
  rw [h2]
  rintro e w2 ⟨rfl, ba⟩
  have ed := ba.size
  have B2 := aa (B1.out.trans (ba.mono (by omega)))
  obtain ⟨f0, f1, f2, f3⟩ := F1.out
  rw [← (eu ba).1 _ _ (by omega)] at f0 f1 f2 f3
  clear ba
  go_wp2_with fail
  refine (HK.out nI.out _ B2.out).mono ?_
  cases h3 : uJ T
  all_goals rintro e w3 ⟨rfl, cZ⟩
  all_goals go_wp2
  all_goals go_ret
  all_goals exact ⟨aw (by rw [e8.out, h1, h2, h3]; rfl), B2.out.trans (cZ.mono (by omega))⟩
def lens (l : List (Nd × Nat)) : Nat := (l.map fun p => p.1.len).sum
theorem jS (a b : List (Nd × Nat)) : lens (a ++ b) = lens a + lens b := by simp [lens]
theorem rM (f : Nat → List (Nd × Nat)) : ∀ n, lens ((List.range n).flatMap f) = ar (fun i => lens (f i)) n
 |0 => rfl
 |n + 1 => by rw [List.range_succ, List.flatMap_append, jS, rM f n]; simp [ar]
theorem rA {f g : Nat → Nat} : ∀ {n : Nat}, (∀ i, i < n → f i = 1 + g i) → ar f n = n + ar g n
 |0, _ => rfl
 |n + 1, h => by simp only [ar]; rw [rA fun i hi => h i (by omega), h n (by omega)]; omega
theorem jR (T : Nd) : ∀ d, T.size = 1 + lens (T.pre d) := by
 induction T with
 |nil => intro d; rfl
 |mk k n s len kids ih =>
  intro d
  rw [nS, Nd.size_eq]
  show 1 + _ = 1 + lens ((_, d) :: mg _ (d + 1))
  have h1 : lens ((Nd.mk k n s len kids, d) :: mg (.mk k n s len kids) (d + 1)) = len + lens (mg (.mk k n s len kids) (d + 1)) := by simp [lens, Nd.len]
  rw [h1]
  unfold mg
  rw [rM, rA (f := fun i => ((Nd.mk k n s len kids).kids i).size) (g := fun i => lens (((Nd.mk k n s len kids).kids i).pre (d + 1))) (fun i _ => ih i (d + 1))]
  rfl
theorem pB {f : Nat → List (Nd × Nat)} {p : Nd × Nat} : ∀ {n : Nat} {A B : List (Nd × Nat)}, A ++ p :: B = (List.range n).flatMap f → ∃ j, j < n ∧ ∃ A1 A2 B2, A = A1 ++ A2 ∧ f j = A2 ++ p :: B2
 |0, A, B, h => by simp at h
 |n + 1, A, B, h => by
  rw [List.range_succ, List.flatMap_append] at h
  simp only [List.flatMap_cons, List.flatMap_nil, List.append_nil] at h
  rcases List.append_eq_append_iff.1 h with ⟨C, h1, h2⟩ | ⟨C, h1, h2⟩
  ·cases C with
   |nil => exact ⟨n, by omega, A, [], B, by simp, by simpa using h2.symm⟩
   |cons c C' =>
    have hc : p = c ∧ B = C' ++ f n := by simpa using h2
    rw [← hc.1] at h1
    obtain ⟨j, hj, r⟩ := pB (A := A) (B := C') h1.symm
    exact ⟨j, by omega, r⟩
  ·exact ⟨n, by omega, _, C, B, h1, h2⟩
theorem parent (T : Nd) : ∀ (d : Nat) (A B : List (Nd × Nat)) (p : Nd × Nat), A ++ p :: B = T.pre d → (A = [] ∧ p.1 = T) ∨ ∃ q, q ∈ A ∧ ∃ i, i < q.1.len ∧ p.1 = q.1.kids i := by
 induction T with
 |nil =>
  intro d A B p h
  cases A with
  |nil => left; simp [Nd.pre] at h; exact ⟨rfl, by rw [h.1]⟩
  |cons a A' => simp [Nd.pre] at h
 |mk k n s len kids ih =>
  intro d A B p h
  rw [nS] at h
  cases A with
  |nil => left; simp at h; exact ⟨rfl, by rw [h.1]⟩
  |cons a A' =>
   right
   simp only [List.cons_append, List.cons.injEq] at h
   obtain ⟨rfl, h⟩ := h
   obtain ⟨j, hj, A1, A2, B2, rfl, hf⟩ := pB h
   rcases ih j (d + 1) A2 B2 p hf.symm with ⟨_, hp⟩ | ⟨q, hq, r⟩
   ·exact ⟨_, List.mem_cons_self .., j, hj, hp⟩
   ·exact ⟨q, by simp [hq], r⟩
theorem o4 {kk : Nat → Int} {c : Nat} : ∀ {m d i : Nat}, i < gI kk c m d → dY (kk (d + i)) c = true
 |0, d, i, h => by simp [gI] at h
 |m + 1, d, i, h => by
  simp only [gI] at h
  split at h
  ·rename_i h0
   cases i with
   |zero => simpa using h0
   |succ i => have := o4 (kk := kk) (c := c) (m := m) (d := d + 1) (i := i) (by omega); rwa [show d + (i + 1) = d + 1 + i by omega]
  ·omega
theorem qj {kk : Nat → Int} {len : Nat} : ∀ (f : Nat) (l : List UInt8) (d : Nat), aY kk len f l d = true → ∀ i, d ≤ i → i < len → ∃ c, dY (kk i) c = true
 |0, l, d, h, i, h1, h2 => by simp [aY] at h; omega
 |f + 1, [], d, h, i, h1, h2 => by simp [aY] at h; omega
 |f + 1, c :: r, d, h, i, h1, h2 => by
  have key : ∀ (m : Nat) (l : List UInt8), aY kk len f l (d + gI kk c.toNat m d) = true → ∃ c, dY (kk i) c = true := fun m l hf => by
   by_cases hi : i < d + gI kk c.toNat m d
   ·exact ⟨c.toNat, by have := o4 (kk := kk) (c := c.toNat) (m := m) (d := d) (i := i - d) (by omega); rwa [show d + (i - d) = i by omega] at this⟩
   ·exact qj f l _ hf i (by omega) h2
  simp only [aY] at h
  split at h
  ·exact key _ _ h
  ·split at h
   ·exact key _ _ h
   ·split at h
    ·cases h
    ·exact key _ _ h
theorem DD {k : Int} {c : Nat} (h : dY k c = true) : 2 ≤ k ∧ k ≤ 29 := by
 unfold dY at h
 repeat' split at h
 all_goals simp at h
 all_goals omega
theorem E8 {T : Nd} (h : ko T = true) {i : Nat} (hi : i < T.len) : 2 ≤ (T.kids i).kind ∧ (T.kids i).kind ≤ 29 := by
 unfold ko at h
 simp only [Bool.and_eq_true] at h
 obtain ⟨c, hc⟩ := qj _ _ _ h.2 i (by omega) hi
 exact DD hc
def iE (T : Nd) : Bool := decide (T.kind = 1) && decide (T.size ≤ 600) && (T.pre 0).all fun p => ko p.1
theorem AT {T : Nd} {A B : List (Nd × Nat)} {p : Nd × Nat} (hT : T.kind = 1) (h : A ++ p :: B = T.pre 0) (hA : ∀ q ∈ A, ko q.1 = true) : 1 ≤ p.1.kind ∧ p.1.kind ≤ 29 := by
 rcases parent T 0 A B p h with ⟨_, hp⟩ | ⟨q, hq, i, hi, hp⟩
 ·rw [hp, hT]; omega
 ·rw [hp]; have := E8 (hA q hq) hi; omega
theorem Eh {T : Nd} {A B : List (Nd × Nat)} {p : Nd × Nat} (h : A ++ p :: B = T.pre 0) (hb : 600 < 1 + lens A + p.1.len ∨ ko p.1 = false) : iE T = false := by
 unfold iE
 rcases hb with hb | hb
 ·have hs := jR T 0
  rw [← h, jS] at hs
  have : lens (p :: B) = p.1.len + lens B := by simp [lens]
  have h6 : ¬ T.size ≤ 600 := by omega
  simp [h6]
 ·have : (T.pre 0).all (fun p => ko p.1) = false := by
   rw [← h, List.all_append, List.all_cons, hb]; simp
  rw [this, Bool.and_false]
theorem Bc {T : Nd} (hT : T.kind = 1) (h6 : 1 + lens (T.pre 0) ≤ 600) (hA : ∀ q ∈ T.pre 0, ko q.1 = true) : iE T = true := by
 unfold iE
 have hs := jR T 0
 have h6' : T.size ≤ 600 := by omega
 have : (T.pre 0).all (fun p => ko p.1) = true := by rw [List.all_eq_true]; exact hA
 simp [hT, h6', this]
end Go.Proofs.YteaocammohcgoaaGreatDoor
