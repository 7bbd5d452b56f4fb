import Derived.Test.YteaocammohcgoaaGreatDoorQKbA
import Derived.BigQuiet
import Derived.Lib.Strings
import Derived.Deep.RegionWith
set_option linter.unusedVariables false
set_option maxHeartbeats 16000000
set_option maxRecDepth 100000
namespace Go.Proofs.YteaocammohcgoaaGreatDoor
open Go.RowKit
variable {G : Prop}
theorem bH0 (h : G := by
 rw [← hm] at sq
 have k_1 := kk
 exact Vo) : G := h
theorem bH1 (h : G := by
 go_roundg s1.size
 case rel => exact ⟨d + 1, _, rfl, by have := bM.out; omega, rfl, by omega, tS (t := 1) bV (by omega) (by omega) (by omega) (fun h => by first | rfl | omega), (show aY kk len s1.size s1.data.toList (d + 1) = res by rw [pc N5.out, sq.out, Fp.out, if_neg (by omega)]), fC⟩
 case measure => have := bM.out; have := zv.out; omega) : G := h
theorem NA (h : G := by
 cases dc : aR s
 all_goals go_enter Tryz.func57, Tryz.ntmps57
 all_goals go_wp2_with (go_at_call 76; refine (rK _ _ HS.out (HR _).out).mono ?_; rw [dc]; rintro e w1 ⟨rfl, rfl⟩)
 all_goals go_ret
 all_goals exact ⟨ao (by unfold Dl; simp [dc]), (HB _).out⟩) : G := h
theorem bH3 (h : G := by
 go_enter Tryz.func58, Tryz.ntmps58
 go_wp2_with fail
 go_region_with (go_at_call 78; refine (HL.out _ (HB _).out.drew).mono ?_; rw [← fb.out]; rintro e w1 ⟨rfl, hb1⟩)
 all_goals go_wp2
 all_goals go_ret
 all_goals exact ⟨rfl, (HB _).out.drew.trans (hb1.mono (by simp))⟩) : G := h
theorem OV (h : G := by
 go_enter Tryz.func56, Tryz.ntmps56
 go_wp2
 all_goals go_ret
 all_goals refine ⟨ao ?_, (HB _).out⟩
 all_goals (rw [Bool.eq_iff_iff]; simp [qV])
 all_goals omega) : G := h
theorem I8 (h : G := by
 go_enter Tryz.func100, Tryz.ntmps100
 go_wp2
 all_goals go_ret
 all_goals refine ⟨ao ?_, rfl⟩
 all_goals (rw [Bool.eq_iff_iff]; simp [ep])
 all_goals omega) : G := h
theorem bH6 (h : G := by
 go_roundg (s1.extract 1 s1.size).size
 case rel => exact ⟨d + t, _, rfl, by have := bM.out; omega, rfl, by omega, tS bV (by omega) (by omega) (by omega) (fun h => by first | rfl | omega), (by rw [pc Jj.out, sq.out, Fp.out]; exact (fX _ _ _ (by rw [List.length_tail]; omega)).symm), fC⟩
 case measure => have := bM.out; have := zv.out; omega) : G := h
theorem bH7 (h : G := by
 go_wp2
 go_roundg (s1.extract 1 s1.size).size
 case rel => exact ⟨d, _, rfl, by have := bM.out; omega, rfl, by omega, Db (by omega) (by omega), (by rw [pc Jj.out, sq.out, Fp.out, Nat.add_zero]; exact (fX _ _ _ (by rw [List.length_tail]; omega)).symm), fC⟩
 case measure => have := bM.out; have := zv.out; omega) : G := h
theorem bH8 (h : G := by
 go_roundg (m - (t + 1))
 case rel => exact ⟨t + 1, rfl, by omega, by go_num, HY.out HO.out, fC⟩
 case measure => have := HG2.out; omega) : G := h
theorem bH9 (h : G := by
 rw [fC.cell (p := ⟨g, _, none⟩) hg, show off + d * 4 + t * 4 = off + (d + t) * 4 by omega]; exact bV (d + t) (by omega) (by omega)) : G := h
theorem Vs (h : G := by
 have hrz : 1 ≤ r.length := by
  have := HQ.out
  cases r with
  |nil => cases this
  |cons => simp
 have Jj : Hid (((s.extract 1 s.size).extract 1 (s.extract 1 s.size).size).data.toList = r.tail) := by unfold Hid; rw [rq, N5.out]
 have eZ : (s.extract 1 s.size).size = r.length := by rw [← fu, N5.out]
 have sU : (1 : Int) ≤ ((s.extract 1 s.size).size : Int) := by omega
 have HZ1 := aa eZ
 have bM : Hid (((s.extract 1 s.size).extract 1 (s.extract 1 s.size).size).size + 2 ≤ s.size ∧ s.size ≤ 100) := by
  unfold Hid; rw [← fu, Jj.out, List.length_tail]; have := zo.out; omega
 clear eZ o4
 generalize s.extract 1 s.size = s1 at *
 go_quiet (fail)
 go_wp2
 clear My Jn
 first
 |clear k_0
  have H3 : ∃ m : Nat, m = min 1 (len - d) := ⟨_, rfl⟩
  obtain ⟨m, hm⟩ := H3
  have Ec : m ≤ len - d := by omega
  have FE : (min 1 ((len - d : Nat) : Int) : Int) = (m : Int) := by omega
  exact bH0
 |clear k_1
  have H3 : ∃ m : Nat, m = len - d := ⟨_, rfl⟩
  obtain ⟨m, hm⟩ := H3
  have Ec : m ≤ len - d := by omega
  have hml2 : len - d ≤ m := by omega
  exact bH0) : G := h
theorem Vq (h : G := by
 obtain rfl := ha (by omega)
 have yX : wr.cell? ⟨g, off + d * 4 + t * 4, none⟩ = some (.int .i64 (kk (d + t))) := by
  exact bH9
 have HY : Hid (ep (kk (d + t)) s[0].toNat = true → ∀ i, i < t + 1 → ep (kk (d + i)) s[0].toNat = true) := fun h i hi => by
  by_cases e : i = t
  ·subst e; exact h
  ·exact bj.out i (by omega)
 clear bj
 first
 |clear k_0
  have Oy : t < 1 := by omega
  have k_0 := kk
  exact Vn
 |clear k_1
  have k_1 := kk
  exact Vn) : G := h
theorem Vp (h : G := by
 obtain ⟨t, Rt, ht, rfl, bj, fC⟩ := hrel
 have HG2 := aa Rt
 clear Rt
 have leave : ∀ yH : t = m ∨ ep (kk (d + t)) s[0].toNat = false, gC kk s[0].toNat m d = t := fun yH => ys bj.out ht yH
 have yb := aa leave
 clear leave
 by_cases bB : t < m
 first
 |clear k_0
  ·have k_0 := kk
   exact Vq
  ·have Md : t = m := by omega
   have VU := yb.out (.inl Md)
   have Fp := aa VU
   clear VU yb bj
   by_cases hdl : d < len
   ·obtain rfl := ha hdl
    subst Md
    obtain rfl : t = 1 := by have := HM.out; omega
    go_wp2
    ·exact bH1
    ·exact bH1
   ·obtain rfl : d = len := by omega
    obtain rfl : m = 0 := by omega
    obtain rfl : t = 0 := by omega
    clear Md
    go_wp2
    go_ret
    exact ⟨ao (by rw [sq.out, Fp.out]; rfl), fC⟩
 |clear k_1
  ·have k_1 := kk
   exact Vq
  ·have Md : t = m := by omega
   have VU := yb.out (.inl Md)
   have Fp := aa VU
   clear VU yb bj
   by_cases hdl : d < len
   ·obtain rfl := ha hdl
    subst Md
    go_wp2
    ·exact bH6
    ·exact bH6
   ·obtain rfl : d = len := by omega
    obtain rfl : m = 0 := by omega
    obtain rfl : t = 0 := by omega
    clear Md
    cases a
    ·exact bH7
    ·exact bH7) : G := h
theorem Vo (h : G := by
 have HM := aa hm
 clear hm
 go_loopg [8] m (fun k2 i wx => ∃ (t : Nat), k2 = m - t ∧ t ≤ m ∧ i = .int .i64 t ∧ Hid (∀ i, i < t → ep (kk (d + i)) s[0].toNat = true) ∧ Below w.heap.size w wx)
 first
 |clear k_0
  case atStart => exact ⟨0, by omega, by omega, rfl, (fun i hi => by omega), hb⟩
  case round =>
   have k_0 := kk
   exact Vp
 |clear k_1
  case atStart => exact ⟨0, by omega, by omega, rfl, (fun i hi => by omega), (show Below w.heap.size w _ from (hb.trans (show Below w.heap.size _ _ from vg _ _ _)))⟩
  case round =>
   have k_1 := kk
   exact Vp) : G := h
theorem Vn (h : G := by
 cases ho : ep (kk (d + t)) s[0].toNat
 all_goals have HO := aa ho
 all_goals clear ho
 all_goals go_wp2_with (go_at_call 100; refine (DC _ _ _).mono ?_; rw [HO.out]; rintro e _ ⟨rfl, rfl⟩)
 first
 |clear k_0
  ·go_ret
   exact ⟨ao (by rw [sq.out, yb.out (.inr HO.out), if_pos Oy]), fC⟩
  ·exact bH8
 |clear k_1
  ·go_roundg (s1.extract 1 s1.size).size
   case rel => exact ⟨d + t, _, rfl, by have := bM.out; omega, rfl, by omega, AC bV (by omega) (by omega) (by omega) (fun h => by first | rfl | omega), (by rw [pc Jj.out, sq.out, yb.out (.inr HO.out)]; exact (fX _ _ _ (by rw [List.length_tail]; omega)).symm), fC⟩
   case measure => have := bM.out; have := zv.out; omega
  ·exact bH8) : G := h
theorem IL (t : ByteArray) (l : List UInt8) : decide ((⟨l.toArray⟩ : ByteArray) = t) = (t.toList == l) := by
 rw [Bool.eq_iff_iff, ByteArray.toList_eq]
 simp only [decide_eq_true_eq, beq_iff_eq]
 constructor
 ·intro h; rw [← h]
 ·intro h; cases t; simp only at h; rw [← h]
theorem Ly (s : ByteArray) : iS s = if s.toList == [124, 124] then 1 else if s.toList == [38, 38] then 2 else
  if (s.toList == [61, 61] || s.toList == [33, 61] || s.toList == [60] || s.toList == [60, 61] || s.toList == [62] || s.toList == [62, 61]) then 3 else
  if (s.toList == [43] || s.toList == [45]) then 4 else if (s.toList == [42] || s.toList == [47] || s.toList == [37]) then 5 else 0 := by
 unfold iS
 simp only [bt, hasB, List.any_cons, List.any_nil, Bool.or_false, IL, Bool.or_assoc]
theorem vf (s : ByteArray) (w : World) : Calls Tryz.prog 77 #[.string s] w fun e w' => e = .returned (.int .i64 (iS s : Int)) ∧ w' = w := by
 have HE := aa (Ly s)
 go_enter Tryz.func77, Tryz.ntmps77
 go_wp2
 all_goals go_ret
 all_goals refine ⟨il ?_, rfl⟩
 all_goals rw [HE.out]
 all_goals simp_all
def ep (k : Int) (c : Nat) : Bool :=
 if c = 102 then decide (k = 2) else if c = 112 then decide (k = 3) else if c = 98 then decide (k = 4)
 else if c = 115 then decide (4 ≤ k) && decide (k ≤ 21) && !decide (k = 16) else if c = 101 then decide (22 ≤ k) && decide (k ≤ 29)
 else if c = 97 then decide (k = 25) || decide (k = 29) else if c = 99 then decide (k = 25) else if c = 111 then decide (k = 4) || decide (k = 10) else if c = 119 then decide (k = 16) else false
theorem DC (k : Int) (c : Nat) (w : World) : Calls Tryz.prog 100 #[.int .i64 k, .int .u8 (c : Int)] w fun e w' => e = .returned (.bool (ep k c)) ∧ w' = w := by
 by_cases M4 : c = 102
 ·subst M4
  exact I8
 by_cases MZ : c = 112
 ·subst MZ
  exact I8
 by_cases c98 : c = 98
 ·subst c98
  exact I8
 by_cases MY : c = 115
 ·subst MY
  exact I8
 by_cases M5 : c = 101
 ·subst M5
  exact I8
 by_cases c97 : c = 97
 ·subst c97
  exact I8
 by_cases c99 : c = 99
 ·subst c99
  exact I8
 by_cases M0 : c = 111
 ·subst M0
  exact I8
 by_cases MX : c = 119
 ·subst MX
  exact I8
 have HO : Hid (ep k c = false) := by unfold Hid ep; simp [M4, MZ, c98, MY, M5, c97, c99, M0, MX]
 have n102 : ((c : Int) == 102) = false := bn (by omega)
 have n112 : ((c : Int) == 112) = false := bn (by omega)
 have n98 : ((c : Int) == 98) = false := bn (by omega)
 have n115 : ((c : Int) == 115) = false := bn (by omega)
 have n101 : ((c : Int) == 101) = false := bn (by omega)
 have n97 : ((c : Int) == 97) = false := bn (by omega)
 have n99 : ((c : Int) == 99) = false := bn (by omega)
 have n111 : ((c : Int) == 111) = false := bn (by omega)
 have n119 : ((c : Int) == 119) = false := bn (by omega)
 clear M4 MZ c98 MY M5 c97 c99 M0 MX
 go_enter Tryz.func100, Tryz.ntmps100
 go_wp2
 go_ret
 exact ⟨ao HO.out.symm, rfl⟩
def qV (k n : Int) : Bool :=
 if k = 2 then decide (0 ≤ n) && decide (n ≤ 3) else if k = 3 then decide (1 ≤ n) && decide (n ≤ 3) else if k = 7 then decide (n = 1) || decide (n = -1) else if k = 16 then decide (0 ≤ n) && decide (n ≤ 2)
 else if k = 22 then decide (0 ≤ n) && decide (n ≤ 999999999999999999) else if k = 23 then decide (n = 0) || decide (n = 1) else decide (n = 0)
def Dl (k n : Int) (s : ByteArray) : Bool :=
 if k = 2 ∨ k = 3 ∨ k = 5 ∨ k = 6 ∨ k = 7 ∨ k = 24 ∨ k = 25 then aR s else if k = 16 then al s || (decide (n = 1) && aR s)
 else if k = 27 then s.toList == [45] || s.toList == [33] else if k = 28 then decide (0 < iS s) else al s
theorem yB (k n : Int) (s : ByteArray) (a : Option Addr) (l c : Nat) (w : World) : Calls Tryz.prog 56 #[.agg #[.int .i64 k, .int .i64 n, .string s, .slice a l c]] w fun e w' => e = .returned (.bool (qV k n)) ∧ Below w.heap.size w w' := by
 have HB : ∀ o : Obj, Hid (Below w.heap.size w (w.alloc o)) := fun o => bA
 by_cases c2 : k = 2
 ·subst c2
  exact OV
 by_cases c3 : k = 3
 ·subst c3
  exact OV
 by_cases c7 : k = 7
 ·subst c7
  exact OV
 by_cases IR : k = 16
 ·subst IR
  exact OV
 by_cases oi : k = 22
 ·subst oi
  exact OV
 by_cases oh : k = 23
 ·subst oh
  exact OV
 have HO : Hid (qV k n = decide (n = 0)) := by unfold Hid qV; simp [c2, c3, c7, IR, oi, oh]
 have n2 : (k == 2) = false := bn c2
 have n3 : (k == 3) = false := bn c3
 have n7 : (k == 7) = false := bn c7
 have n16 : (k == 16) = false := bn IR
 have n22 : (k == 22) = false := bn oi
 have n23 : (k == 23) = false := bn oh
 clear c2 c3 c7 IR oi oh
 go_enter Tryz.func56, Tryz.ntmps56
 go_wp2
 go_ret
 exact ⟨ao (by rw [HO.out, Bool.eq_iff_iff]; simp), (HB _).out⟩
theorem Lw (k n : Int) (s : ByteArray) (a : Option Addr) (l c : Nat) (w : World) (hs : s.size ≤ maxLen) (hg : 3 < w.heap.size) (hr : fp w 3 de) :
  Calls Tryz.prog 57 #[.agg #[.int .i64 k, .int .i64 n, .string s, .slice a l c]] w fun e w' => e = .returned (.bool (Dl k n s)) ∧ Below w.heap.size w w' := by
 have HB : ∀ o : Obj, Hid (Below w.heap.size w (w.alloc o)) := fun o => bA
 have HS := aa hs
 have HR : ∀ o : Obj, Hid (fp (w.alloc o) 3 de) := fun o i hi => ((HB o).out.cell (p := ⟨3, i, none⟩) hg).trans (hr i hi)
 clear hs hr hg
 by_cases c2 : k = 2
 ·subst c2
  exact NA
 by_cases c3 : k = 3
 ·subst c3
  exact NA
 by_cases c5 : k = 5
 ·subst c5
  exact NA
 by_cases c6 : k = 6
 ·subst c6
  exact NA
 by_cases c7 : k = 7
 ·subst c7
  exact NA
 by_cases c24 : k = 24
 ·subst c24
  exact NA
 by_cases c25 : k = 25
 ·subst c25
  exact NA
 by_cases IR : k = 16
 ·subst IR
  cases dc : aR s
  all_goals cases he : s.toList.isEmpty
  all_goals cases h1 : (n == 1)
  all_goals go_enter Tryz.func57, Tryz.ntmps57
  all_goals go_wp2_with (go_at_call 76; refine (rK _ _ HS.out (HR _).out).mono ?_; rw [dc]; rintro e w1 ⟨rfl, rfl⟩)
  all_goals go_ret
  all_goals exact ⟨ao (by unfold Dl; simp only [al, dc, he, pI h1]; rfl), (HB _).out⟩
 by_cases c27 : k = 27
 ·subst c27
  cases h1 : (s.toList == [45])
  all_goals cases h2 : (s.toList == [33])
  all_goals go_enter Tryz.func57, Tryz.ntmps57
  all_goals go_wp2
  all_goals go_ret
  all_goals exact ⟨ao (by unfold Dl; simp only [h1, h2]; rfl), (HB _).out⟩
 by_cases c28 : k = 28
 ·subst c28
  cases h1 : decide (0 < iS s)
  all_goals go_enter Tryz.func57, Tryz.ntmps57
  all_goals go_wp2_with (go_at_call 77; refine (vf _ _).mono ?_; rintro e w1 ⟨rfl, rfl⟩)
  all_goals go_ret
  all_goals exact ⟨ao (by unfold Dl; simp_all), (HB _).out⟩
 have HO : Hid (Dl k n s = al s) := by unfold Hid Dl; simp [c2, c3, c5, c6, c7, c24, c25, IR, c27, c28]
 have n2 : (k == 2) = false := bn c2
 have n3 : (k == 3) = false := bn c3
 have n5 : (k == 5) = false := bn c5
 have n6 : (k == 6) = false := bn c6
 have n7 : (k == 7) = false := bn c7
 have n24 : (k == 24) = false := bn c24
 have n25 : (k == 25) = false := bn c25
 have n16 : (k == 16) = false := bn IR
 have n27 : (k == 27) = false := bn c27
 have n28 : (k == 28) = false := bn c28
 clear c2 c3 c5 c6 c7 c24 c25 IR c27 c28
 cases he : s.toList.isEmpty
 all_goals go_enter Tryz.func57, Tryz.ntmps57
 all_goals go_wp2
 all_goals go_ret
 all_goals exact ⟨ao (by rw [HO.out]; simp [al, he]), (HB _).out⟩
def gC (kk : Nat → Int) (c : Nat) : Nat → Nat → Nat
 |0, _ => 0
 |m + 1, d => if ep (kk d) c then gC kk c m (d + 1) + 1 else 0
def aY (kk : Nat → Int) (len : Nat) : Nat → List UInt8 → Nat → Bool
 |0, _, d => decide (d = len)
 |f + 1, [], d => decide (d = len)
 |f + 1, c :: r, d =>
  if r.head? = some 63 then aY kk len f r.tail (d + gC kk c.toNat (min 1 (len - d)) d)
  else if r.head? = some 42 then aY kk len f r.tail (d + gC kk c.toNat (len - d) d)
  else if gC kk c.toNat (min 1 (len - d)) d < 1 then false else aY kk len f r (d + gC kk c.toNat (min 1 (len - d)) d)
theorem fu (s : ByteArray) : s.data.toList.length = s.size := rfl
theorem u9 (s : ByteArray) (a b : Nat) : (s.extract a b).data.toList = (s.data.toList.drop a).take (b - a) := Lib.extract_data s a b
theorem rq (s : ByteArray) : (s.extract 1 s.size).data.toList = s.data.toList.tail := by
 rw [u9, List.take_of_length_le (by rw [List.length_drop, fu]; omega), List.drop_one]
theorem ry (s : ByteArray) : s.data.toList.length = s.size := rfl
theorem mM (s : ByteArray) : s.toList.isEmpty = s.data.toList.isEmpty := by rw [ByteArray.toList_eq]
theorem D3 (s : ByteArray) (c : UInt8) (w : World) (hs : s.size ≤ 100) :
  Calls Tryz.prog 74 #[.string s, .string ⟨#[c]⟩] w fun e w' => e = .returned (.bool (decide (s.data.toList.head? = some c))) ∧ w' = w := by
 have HL := aa (u9 s 0 1)
 have HZ := aa (ry s)
 go_enter Tryz.func74, Tryz.ntmps74
 go_wp2
 all_goals go_ret
 ·refine ⟨ao ?_, rfl⟩
  rw [ByteArray.toList_eq, HL.out]
  cases h : s.data.toList with
  |nil => rw [Bool.eq_iff_iff]; simp
  |cons x l => rw [Bool.eq_iff_iff]; simp
 ·refine ⟨ao ?_, rfl⟩
  cases h : s.data.toList with
  |nil => simp
  |cons x l => have := HZ.out; rw [h] at this; simp at this; omega
theorem Mk (s : ByteArray) (c : UInt8) (w : World) (hs : s.size ≤ 100) :
  Calls Tryz.prog 48 #[.string s, .string ⟨#[c]⟩] w fun e w' => e = .returned (.bool (decide (s.data.toList.head? = some c))) ∧ w' = w := by
 have HC := aa (fun w => D3 s c w hs)
 go_enter Tryz.func48, Tryz.ntmps48
 go_wp2_with (go_at_call 74; refine (HC.out _).mono ?_; rintro e w' ⟨rfl, rfl⟩)
 go_ret
 exact ⟨rfl, rfl⟩
theorem ys {kk : Nat → Int} {c : Nat} : ∀ {m t d : Nat}, (∀ i, i < t → ep (kk (d + i)) c = true) → t ≤ m → (t = m ∨ ep (kk (d + t)) c = false) → gC kk c m d = t
  | 0, t, d, _, h, _ => by simp [gC]; omega
  | m + 1, 0, d, _, _, h => by
    have h' : ep (kk d) c = false := by rcases h with h | h; omega; simpa using h
    simp [gC, h']
  | m + 1, t + 1, d, ha, hm, h => by
    have h0 : ep (kk d) c = true := by simpa using ha 0 (by omega)
    have := ys (kk := kk) (c := c) (m := m) (t := t) (d := d + 1) (fun i hi => by have := ha (i + 1) (by omega); rwa [show d + (i + 1) = d + 1 + i by omega] at this) (by omega)
      (by rcases h with h | h
          · exact .inl (by omega)
          · exact .inr (by rwa [show d + (t + 1) = d + 1 + t by omega] at h))
    simp [gC, h0, this]
theorem Bj {kk : Nat → Int} {len d : Nat} {s : ByteArray} {c : UInt8} {r : List UInt8} (h : s.data.toList = c :: r) : aY kk len s.size s.data.toList d =
  if r.head? = some 63 then aY kk len r.length r.tail (d + gC kk c.toNat (min 1 (len - d)) d)
  else if r.head? = some 42 then aY kk len r.length r.tail (d + gC kk c.toNat (len - d) d)
  else if gC kk c.toNat (min 1 (len - d)) d < 1 then false else aY kk len r.length r (d + gC kk c.toNat (min 1 (len - d)) d) := by
 have hz : s.size = r.length + 1 := by rw [← fu, h]; rfl
 rw [hz, h]; rfl
theorem fX {kk : Nat → Int} {len : Nat} : ∀ (f : Nat) (l : List UInt8) (d : Nat), l.length ≤ f → aY kk len f l d = aY kk len l.length l d
 |0, l, d, h => by
  have : l = [] := List.eq_nil_of_length_eq_zero (by omega)
  subst this; rfl
 |f + 1, [], d, _ => rfl
 |f + 1, c :: r, d, h => by
  simp only [List.length_cons] at h ⊢
  simp only [aY]
  rw [fX f r.tail _ (by rw [List.length_tail]; omega), fX f r.tail _ (by rw [List.length_tail]; omega), fX f r _ (by omega),
   fX r.length r.tail _ (by rw [List.length_tail]; omega), fX r.length r.tail _ (by rw [List.length_tail]; omega)]
theorem vg (B : Nat) (w : World) (n : Nat) : Below B w (w.drewN n) := ⟨rfl, rfl, rfl, Nat.le_refl _, fun _ _ => rfl⟩
def Rest (w : World) (kk : Nat → Int) (len g off d : Nat) (v : Value) : Prop :=
 ∃ a cap, v = .slice a (len - d) cap ∧ len - d ≤ cap ∧ cap ≤ 9223372036854775807 ∧ (d < len → a = some ⟨g, off + d * 4, none⟩) ∧ ∀ i, d ≤ i → i < len → w.cell? ⟨g, off + i * 4, none⟩ = some (.int .i64 (kk i))
theorem AC {w : World} {kk : Nat → Int} {len g off d t cap : Nat} {a : Option Addr} (hc : ∀ i, d ≤ i → i < len → w.cell? ⟨g, off + i * 4, none⟩ = some (.int .i64 (kk i))) (h1 : t ≤ len - d) (h2 : len - d ≤ cap) (h3 : cap ≤ 9223372036854775807)
  (ha : d + t < len → a = some ⟨g, off + d * 4 + t * 4, none⟩) : Rest w kk len g off (d + t) (.slice a (len - d - t) (cap - t)) := by
 refine ⟨a, cap - t, by rw [show len - (d + t) = len - d - t by omega], by omega, by omega, fun h => ?_, fun i hi => hc i (by omega)⟩
 rw [ha h, show off + (d + t) * 4 = off + d * 4 + t * 4 by omega]
theorem tS {w : World} {kk : Nat → Int} {len g off d t l cap : Nat} {a : Option Addr} (hc : ∀ i, d ≤ i → i < len → w.cell? ⟨g, off + i * 4, none⟩ = some (.int .i64 (kk i))) (hl : l = len - (d + t)) (h2 : l ≤ cap) (h3 : cap ≤ 9223372036854775807)
  (ha : d + t < len → a = some ⟨g, off + d * 4 + t * 4, none⟩) : Rest w kk len g off (d + t) (.slice a l cap) := by
 refine ⟨a, cap, by rw [hl], by omega, by omega, fun h => ?_, fun i hi => hc i (by omega)⟩
 rw [ha h, show off + (d + t) * 4 = off + d * 4 + t * 4 by omega]
theorem Db {w : World} {kk : Nat → Int} {len g off l cap : Nat} {a : Option Addr} (hl : l = 0) (h3 : cap ≤ 9223372036854775807) : Rest w kk len g off len (.slice a l cap) := by
 subst hl
 exact ⟨a, cap, by rw [Nat.sub_self], by omega, h3, fun h => by omega, fun i h1 h2 => by omega⟩
theorem pc {kk : Nat → Int} {len d : Nat} {s : ByteArray} {l : List UInt8} (h : s.data.toList = l) : aY kk len s.size s.data.toList d = aY kk len l.length l d := by
 subst h; rfl
theorem Dw (kk : Nat → Int) (len g off : Nat) (form : ByteArray) (v : Value) (w : World) (hl : len ≤ 9223372036854775807) (hs : form.size ≤ 100) (hg : g < w.heap.size) (hr : Rest w kk len g off 0 v) :
  Calls Tryz.prog 78 #[v, .string form] w fun e w' => e = .returned (.bool (aY kk len form.size form.data.toList 0)) ∧ Below w.heap.size w w' := by
 obtain ⟨a0, MV, rfl, yJ⟩ := hr
 have HR := aa yJ
 generalize uG : aY kk len form.size form.data.toList 0 = res
 have VO := aa uG
 clear yJ uG
 go_enter Tryz.func78, Tryz.ntmps78
 go_wp2
 go_loopg [0, 1] form.size (fun gk kids f wr => ∃ (d : Nat) (s : ByteArray), gk = s.size ∧ s.size ≤ 100 ∧ f = .string s ∧ d ≤ len ∧ Rest w kk len g off d kids ∧ Hid (aY kk len s.size s.data.toList d = res) ∧ Below w.heap.size w wr)
 case atStart => exact ⟨0, form, rfl, hs, rfl, by omega, ⟨a0, MV, rfl, HR.out⟩, VO.out, Below.refl _ _⟩
 case round =>
  obtain ⟨d, s, rP, az, rfl, hd, ⟨a, cap, rfl, Kf, OH, ha, bV⟩, aq, hb⟩ := hrel
  clear HR VO hs
  cases hz : s.toList.isEmpty
  ·obtain ⟨c, r, yS⟩ : ∃ c r, s.data.toList = c :: r := by
    cases h : s.data.toList with
    |nil => rw [mM, h] at hz; cases hz
    |cons c r => exact ⟨c, r, rfl⟩
   have bS : s.size = r.length + 1 := by rw [← fu, yS]; rfl
   have h1s : (1 : Int) ≤ (s.size : Int) := by omega
   have h0s : 0 < s.size := by omega
   have eT : s[0]'h0s = c := by
    have : s.data.toList[0]'(by rw [yS]; simp) = c := by simp [yS]
    rw [← this]; rfl
   subst eT
   have N5 : Hid ((s.extract 1 s.size).data.toList = r) := by unfold Hid; rw [rq, yS]; rfl
   have o4 := aa (aq.out ▸ Bj yS)
   have Jn := aa yS
   have zo := aa bS
   have zv := aa rP
   clear aq yS bS rP
   have My : ∀ (x : UInt8) (W : World), Hid (Calls Tryz.prog 48 #[.string (s.extract 1 s.size), .string ⟨#[x]⟩] W fun e w' => e = .returned (.bool (decide (r.head? = some x))) ∧ w' = W) := fun x W => by
    have := Mk (s.extract 1 s.size) x W (by rw [← fu, N5.out]; have := zo.out; omega)
    rw [N5.out] at this
    exact this
   by_cases Om : r.head? = some 63
   ·have HQ := aa Om
    clear Om
    go_wp2_with (go_at_call 48; refine (My _ _).out.mono ?_; rw [decide_eq_true HQ.out]; rintro e _ ⟨rfl, rfl⟩)
    have sq : Hid (res = aY kk len r.length r.tail (d + gC kk s[0].toNat (min 1 (len - d)) d)) := by have := o4.out; rw [if_pos HQ.out] at this; exact this
    have k_0 := kk
    exact Vs
   by_cases q42 : r.head? = some 42
   ·have HQ := aa q42
    have OZ := aa Om
    clear q42 Om
    have P1 : Hid True := trivial
    go_wp2_with (go_at_call 48; first | (clear P1; refine (My 63 _).out.mono ?_; rw [decide_eq_false OZ.out]; rintro e _ ⟨rfl, rfl⟩) | (refine (My 42 _).out.mono ?_; rw [decide_eq_true HQ.out]; rintro e _ ⟨rfl, rfl⟩))
    have sq : Hid (res = aY kk len r.length r.tail (d + gC kk s[0].toNat (len - d) d)) := by have := o4.out; rw [if_neg OZ.out, if_pos HQ.out] at this; exact this
    have k_1 := kk
    exact Vs
   have OZ := aa Om
   have HQ := aa q42
   clear q42 Om
   have P1 : Hid True := trivial
   go_wp2_with (go_at_call 48; first | (clear P1; refine (My 63 _).out.mono ?_; rw [decide_eq_false OZ.out]; rintro e _ ⟨rfl, rfl⟩) | (refine (My 42 _).out.mono ?_; rw [decide_eq_false HQ.out]; rintro e _ ⟨rfl, rfl⟩))
   have sq : Hid (res = if gC kk s[0].toNat (min 1 (len - d)) d < 1 then false else aY kk len r.length r (d + gC kk s[0].toNat (min 1 (len - d)) d)) := by have := o4.out; rw [if_neg OZ.out, if_neg HQ.out] at this; exact this
   have eZ : (s.extract 1 s.size).size = r.length := by rw [← fu, N5.out]
   have bM : Hid ((s.extract 1 s.size).size + 1 ≤ s.size ∧ s.size ≤ 100) := by unfold Hid; have := zo.out; omega
   clear eZ o4 My Jn
   generalize s.extract 1 s.size = s1 at *
   obtain ⟨m, hm⟩ : ∃ m : Nat, m = min 1 (len - d) := ⟨_, rfl⟩
   have Ec : m ≤ len - d := by omega
   have FE : (min 1 ((len - d : Nat) : Int) : Int) = (m : Int) := by omega
   rw [← hm] at sq
   have hm2 : m ≤ 1 := by omega
   have k_0 := kk
   exact Vo
  ·have HF : Hid (res = decide (d = len)) := by
    have := aq.out
    rw [mM, List.isEmpty_iff] at hz
    have bS : s.size = 0 := by rw [← ry, hz]; rfl
    rw [hz, bS] at this
    exact this.symm
   cases h0 : (((len - d : Nat) : Int) == 0)
   all_goals go_wp2
   all_goals go_ret
   all_goals refine ⟨ao ?_, hb⟩
   ·rw [HF.out, eq_comm, decide_eq_false_iff_not]; have := beq_eq_false_iff_ne.1 h0; omega
   ·rw [HF.out, eq_comm, decide_eq_true_eq]; have := beq_iff_eq.1 h0; omega
def ic : List ByteArray := [⟨#[]⟩, ⟨#[102, 42]⟩, ⟨#[112, 42, 98]⟩, ⟨#[]⟩, ⟨#[115, 42]⟩, ⟨#[101]⟩, ⟨#[101]⟩, ⟨#[]⟩, ⟨#[101, 101]⟩, ⟨#[97]⟩, ⟨#[101, 98, 111, 63]⟩, ⟨#[101, 63, 98]⟩, ⟨#[101, 63]⟩, ⟨#[99]⟩, ⟨#[99]⟩, ⟨#[119, 42]⟩, ⟨#[]⟩, ⟨#[]⟩, ⟨#[]⟩, ⟨#[101]⟩, ⟨#[101]⟩, ⟨#[101]⟩, ⟨#[]⟩, ⟨#[]⟩, ⟨#[]⟩, ⟨#[101, 42]⟩, ⟨#[101, 63]⟩, ⟨#[101]⟩, ⟨#[101, 101]⟩, ⟨#[101]⟩]
def fY : List ByteArray := [⟨#[98]⟩, ⟨#[101, 98]⟩, ⟨#[101, 101, 98]⟩]
def fT (k n : Int) : ByteArray := if k = 16 then fY.getD n.toNat ⟨#[]⟩ else ic.getD k.toNat ⟨#[]⟩
def uk (T : Nd) : Bool := aY T.kk T.len (fT T.kind T.num).size (fT T.kind T.num).data.toList 0
def kl (T : Nd) : Bool := qV T.kind T.num && Dl T.kind T.num T.name && uk T
theorem xB (k n : Int) : (fT k n).size ≤ 100 := by
 have h : ∀ l ∈ [fY, ic], ∀ i, (l.getD i ⟨#[]⟩).size ≤ 100 := by
  intro l hl i
  have hm : l.getD i ⟨#[]⟩ = ⟨#[]⟩ ∨ l.getD i ⟨#[]⟩ ∈ l := by
   by_cases hi : i < l.length
   ·right; rw [List.getD_eq_getElem?_getD, List.getElem?_eq_getElem hi]; simp
   ·left; rw [List.getD_eq_getElem?_getD, List.getElem?_eq_none (by omega)]; rfl
  rcases hm with h | h
  ·rw [h]; decide
  ·have : ∀ l ∈ [fY, ic], ∀ x ∈ l, x.size ≤ 100 := by decide
   exact this l hl _ h
 unfold fT
 split
 ·exact h _ (by simp) _
 ·exact h _ (by simp) _
theorem Da {T : Nd} {w : World} {v : Value} {hi : Nat} (hr : Row 0 hi w T v) (h0 : 0 < hi) : ∃ g off, g < hi ∧ Rest w T.kk T.len g off 0 v := by
 obtain ⟨a, cap, rfl, b7, hq⟩ := ar.1 hr
 rcases hq with hq | ⟨g, off, rfl, _, hg, hq⟩
 ·exact ⟨0, 0, h0, a, cap, rfl, by omega, b7.2, fun h => by omega, fun i _ h => by omega⟩
 ·refine ⟨g, off, hg, some ⟨g, off, none⟩, cap, rfl, by omega, b7.2, fun h => by simp, fun i _ h => ?_⟩
  obtain ⟨u, e0, _⟩ := hq i h
  exact e0
structure oW (w : World) : Prop where
 words : fp w 3 de
 kids : fp w 2 ic
 cases : fp w 1 fY
 lt : 3 < w.heap.size
theorem ez {w w' : World} (h : oW w) (hb : Below w.heap.size w w') : oW w' := by
 have := h.lt
 have hz := hb.size
 exact ⟨fun i hi => (hb.cell (p := ⟨3, i, none⟩) (by show 3 < _; omega)).trans (h.words i hi), fun i hi => (hb.cell (p := ⟨2, i, none⟩) (by show 2 < _; omega)).trans (h.kids i hi),
  fun i hi => (hb.cell (p := ⟨1, i, none⟩) (by show 1 < _; omega)).trans (h.cases i hi), by omega⟩
theorem uj (T : Nd) (k : Nat) (hk : T.kind = (k : Int)) (BP : k ≤ 29) (ky : k = 16 → 0 ≤ T.num ∧ T.num ≤ 2) (w : World) (v : Value) (hi : Nat) (hf : T.Fine) (cY : hi ≤ w.heap.size) (ke : 0 < hi) (hr : Row 0 hi w T v) (ht : oW w) :
    Calls Tryz.prog 58 #[T.val v] w fun e w' => e = .returned (.bool (uk T)) ∧ Below w.heap.size w w' := by
  obtain ⟨a, cap, hv, _⟩ := ar.1 hr
  have hn := T.fine_len hf
  have HB : ∀ o : Obj, Hid (Below w.heap.size w (w.alloc o)) := fun o => bA
  have bB := ht.lt
  have HL := aa (fun (W : World) (hb : Below w.heap.size w W) => by
    obtain ⟨g, off, hg, yJ⟩ := Da (ah hb cY hr) ke
    exact Dw T.kk T.len g off (fT T.kind T.num) v W hn (xB _ _) (by have := hb.size; omega) yJ)
  have fb : Hid (uk T = aY T.kk T.len (fT T.kind T.num).size (fT T.kind T.num).data.toList 0) := rfl
  unfold Nd.val
  subst hv
  by_cases ML : k = 16
  · subst ML
    obtain ⟨c0, c2⟩ := ky rfl
    obtain ⟨m, hm⟩ : ∃ m : Nat, T.num = (m : Int) := ⟨T.num.toNat, by omega⟩
    have vH : ∀ o : Obj, (w.alloc o).cell? ⟨1, m, none⟩ = some (.string (fY.getD m ⟨#[]⟩)) := fun o => ((HB o).out.cell (p := ⟨1, m, none⟩) (by show 1 < _; omega)).trans (ht.cases m (by show m < 3; omega))
    have Ry : fT T.kind T.num = fY.getD m ⟨#[]⟩ := by unfold fT; rw [hk, hm]; rfl
    rw [Ry] at HL fb
    rw [hk, hm]
    have Mu : (m : Int) < 3 := by omega
    have Re : (0 : Int) ≤ (m : Int) := by omega
    clear hf hr hk hm ky c0 c2 ht Ry
    generalize fY.getD m ⟨#[]⟩ = fo at *
    exact bH3
  · have vH : ∀ o : Obj, (w.alloc o).cell? ⟨2, k, none⟩ = some (.string (ic.getD k ⟨#[]⟩)) := fun o => ((HB o).out.cell (p := ⟨2, k, none⟩) (by show 2 < _; omega)).trans (ht.kids k (by show k < 30; omega))
    have dr : ((k : Int) == 16) = false := bn (by omega)
    have Ry : fT T.kind T.num = ic.getD k ⟨#[]⟩ := by unfold fT; rw [hk, if_neg (by omega)]; rfl
    rw [Ry] at HL fb
    rw [hk]
    have Mu : (k : Int) < 30 := by omega
    have Re : (0 : Int) ≤ (k : Int) := by omega
    clear hf hr hk ky ht Ry ML
    generalize T.num = tn at *
    generalize ic.getD k ⟨#[]⟩ = fo at *
    exact bH3
theorem sL (T : Nd) (k : Nat) (hk : T.kind = (k : Int)) (BP : k ≤ 29) (w : World) (v : Value) (hi : Nat) (hf : T.Fine) (cY : hi ≤ w.heap.size) (ke : 0 < hi) (hr : Row 0 hi w T v) (ht : oW w) :
  Calls Tryz.prog 28 #[T.val v] w fun e w' => e = .returned (.bool (kl T)) ∧ Below w.heap.size w w' := by
 obtain ⟨a, cap, hv, _⟩ := ar.1 hr
 have hs := T.fine_name hf
 have HB : ∀ o : Obj, Hid (Below w.heap.size w (w.alloc o)) := fun o => bA
 have fb : Hid (kl T = (qV T.kind T.num && Dl T.kind T.num T.name && uk T)) := rfl
 have HK := aa (fun (hc : k = 16 → 0 ≤ T.num ∧ T.num ≤ 2) (W : World) (hb : Below w.heap.size w W) => uj T k hk BP hc W v hi hf (by have := hb.size; omega) ke (ah hb cY hr) (ez ht hb))
 have HN := aa (fun (W : World) (hb : Below w.heap.size w W) => Lw T.kind T.num T.name a T.len cap W (by unfold maxLen; exact hs) (ez ht hb).lt (ez ht hb).words)
 have HC : Hid (qV T.kind T.num = true → k = 16 → 0 ≤ T.num ∧ T.num ≤ 2) := fun h e => by
  rw [hk, e] at h; simpa [qV] using h
 unfold Nd.val at *
 subst hv
 clear hf hr hs hk ht
 generalize T.kind = tk at *
 generalize T.num = tn at *
 generalize T.name = ts at *
 cases h1 : qV tk tn
 ·go_enter Tryz.func28, Tryz.ntmps28
  go_wp2_with (go_at_call 56; refine (yB _ _ _ _ _ _ _).mono ?_; rw [h1]; rintro e w1 ⟨rfl, hb1⟩)
  go_ret
  exact ⟨ao (by rw [fb.out, h1]; rfl), (HB _).out.trans (hb1.mono (by simp))⟩
 have mU := aa (HC.out h1)
 clear HC
 go_enter Tryz.func28, Tryz.ntmps28
 go_wp2_with (go_at_call 56; refine (yB _ _ _ _ _ _ _).mono ?_; rw [h1]; rintro e w1 ⟨rfl, hb1⟩; have eZ := hb1.size; simp only [World.size_alloc] at eZ; obtain ⟨ed, qJ⟩ := eG hb1; have B1 := aa ((HB _).out.trans (hb1.mono (by simp))))
 have F1 : Hid (w1.cell? ⟨w.heap.size, 0, none⟩ = some (.int .i64 tk) ∧ w1.cell? ⟨w.heap.size, 1, none⟩ = some (.int .i64 tn) ∧ w1.cell? ⟨w.heap.size, 2, none⟩ = some (.string ts) ∧ w1.cell? ⟨w.heap.size, 3, none⟩ = some (.slice a T.len cap)) := by
  refine ⟨?_, ?_, ?_, ?_⟩ <;> (rw [ed _ _ (by simp)]; simp [go_sem])
 clear ed qJ hb1
 cases h2 : Dl tk tn ts
 ·refine (HN.out _ B1.out).mono ?_
  rw [h2]
  rintro e w2 ⟨rfl, hb2⟩
  go_wp2
  go_ret
  exact ⟨ao (by rw [fb.out, h1, h2]; rfl), B1.out.trans (hb2.mono (by omega))⟩
 ·refine (HN.out _ B1.out).mono ?_
  rw [h2]
  rintro e w2 ⟨rfl, hb2⟩
  have ec := hb2.size
  have B2 := aa (B1.out.trans (hb2.mono (by omega)))
  obtain ⟨f0, f1, f2, f3⟩ := F1.out
  rw [← (eG hb2).1 _ _ (by omega)] at f0 f1 f2 f3
  clear hb2
  go_wp2_with fail
  refine (HK.out mU.out _ B2.out).mono ?_
  cases h3 : uk T
  all_goals rintro e w3 ⟨rfl, hb3⟩
  all_goals go_wp2
  all_goals go_ret
  all_goals exact ⟨ao (by rw [fb.out, h1, h2, h3]; rfl), B2.out.trans (hb3.mono (by omega))⟩
def lens (l : List (Nd × Nat)) : Nat := (l.map fun p => p.1.len).sum
theorem jO (a b : List (Nd × Nat)) : lens (a ++ b) = lens a + lens b := by simp [lens]
theorem rG (f : Nat → List (Nd × Nat)) : ∀ n, lens ((List.range n).flatMap f) = aw (fun i => lens (f i)) n
 |0 => rfl
 |n + 1 => by rw [List.range_succ, List.flatMap_append, jO, rG f n]; simp [aw]
theorem ru {f g : Nat → Nat} : ∀ {n : Nat}, (∀ i, i < n → f i = 1 + g i) → aw f n = n + aw g n
 |0, _ => rfl
 |n + 1, h => by simp only [aw]; rw [ru fun i hi => h i (by omega), h n (by omega)]; omega
theorem jN (T : Nd) : ∀ d, T.size = 1 + lens (T.pre d) := by
 induction T with
 |nil => intro d; rfl
 |mk k n s len kids ih =>
  intro d
  rw [nQ, Nd.size_eq]
  show 1 + _ = 1 + lens ((_, d) :: lY _ (d + 1))
  have h1 : lens ((Nd.mk k n s len kids, d) :: lY (.mk k n s len kids) (d + 1)) = len + lens (lY (.mk k n s len kids) (d + 1)) := by simp [lens, Nd.len]
  rw [h1]
  unfold lY
  rw [rG, ru (f := fun i => ((Nd.mk k n s len kids).kids i).size) (g := fun i => lens (((Nd.mk k n s len kids).kids i).pre (d + 1))) (fun i _ => ih i (d + 1))]
  rfl
theorem py {f : Nat → List (Nd × Nat)} {p : Nd × Nat} : ∀ {n : Nat} {A B : List (Nd × Nat)}, A ++ p :: B = (List.range n).flatMap f → ∃ j, j < n ∧ ∃ A1 A2 B2, A = A1 ++ A2 ∧ f j = A2 ++ p :: B2
 |0, A, B, h => by simp at h
 |n + 1, A, B, h => by
  rw [List.range_succ, List.flatMap_append] at h
  simp only [List.flatMap_cons, List.flatMap_nil, List.append_nil] at h
  rcases List.append_eq_append_iff.1 h with ⟨C, h1, h2⟩ | ⟨C, h1, h2⟩
  ·cases C with
   |nil => exact ⟨n, by omega, A, [], B, by simp, by simpa using h2.symm⟩
   |cons c C' =>
    have hc : p = c ∧ B = C' ++ f n := by simpa using h2
    rw [← hc.1] at h1
    obtain ⟨j, hj, r⟩ := py (A := A) (B := C') h1.symm
    exact ⟨j, by omega, r⟩
  ·exact ⟨n, by omega, _, C, B, h1, h2⟩
theorem parent (T : Nd) : ∀ (d : Nat) (A B : List (Nd × Nat)) (p : Nd × Nat), A ++ p :: B = T.pre d → (A = [] ∧ p.1 = T) ∨ ∃ q, q ∈ A ∧ ∃ i, i < q.1.len ∧ p.1 = q.1.kids i := by
 induction T with
 |nil =>
  intro d A B p h
  cases A with
  |nil => left; simp [Nd.pre] at h; exact ⟨rfl, by rw [h.1]⟩
  |cons a A' => simp [Nd.pre] at h
 |mk k n s len kids ih =>
  intro d A B p h
  rw [nQ] at h
  cases A with
  |nil => left; simp at h; exact ⟨rfl, by rw [h.1]⟩
  |cons a A' =>
   right
   simp only [List.cons_append, List.cons.injEq] at h
   obtain ⟨rfl, h⟩ := h
   obtain ⟨j, hj, A1, A2, B2, rfl, hf⟩ := py h
   rcases ih j (d + 1) A2 B2 p hf.symm with ⟨_, hp⟩ | ⟨q, hq, r⟩
   ·exact ⟨_, List.mem_cons_self .., j, hj, hp⟩
   ·exact ⟨q, by simp [hq], r⟩
theorem o5 {kk : Nat → Int} {c : Nat} : ∀ {m d i : Nat}, i < gC kk c m d → ep (kk (d + i)) c = true
 |0, d, i, h => by simp [gC] at h
 |m + 1, d, i, h => by
  simp only [gC] at h
  split at h
  ·rename_i h0
   cases i with
   |zero => simpa using h0
   |succ i => have := o5 (kk := kk) (c := c) (m := m) (d := d + 1) (i := i) (by omega); rwa [show d + (i + 1) = d + 1 + i by omega]
  ·omega
theorem qe {kk : Nat → Int} {len : Nat} : ∀ (f : Nat) (l : List UInt8) (d : Nat), aY kk len f l d = true → ∀ i, d ≤ i → i < len → ∃ c, ep (kk i) c = true
 |0, l, d, h, i, h1, h2 => by simp [aY] at h; omega
 |f + 1, [], d, h, i, h1, h2 => by simp [aY] at h; omega
 |f + 1, c :: r, d, h, i, h1, h2 => by
  have key : ∀ (m : Nat) (l : List UInt8), aY kk len f l (d + gC kk c.toNat m d) = true → ∃ c, ep (kk i) c = true := fun m l hf => by
   by_cases hi : i < d + gC kk c.toNat m d
   ·exact ⟨c.toNat, by have := o5 (kk := kk) (c := c.toNat) (m := m) (d := d) (i := i - d) (by omega); rwa [show d + (i - d) = i by omega] at this⟩
   ·exact qe f l _ hf i (by omega) h2
  simp only [aY] at h
  split at h
  ·exact key _ _ h
  ·split at h
   ·exact key _ _ h
   ·split at h
    ·cases h
    ·exact key _ _ h
theorem Dg {k : Int} {c : Nat} (h : ep k c = true) : 2 ≤ k ∧ k ≤ 29 := by
 unfold ep at h
 repeat' split at h
 all_goals simp at h
 all_goals omega
theorem EC {T : Nd} (h : kl T = true) {i : Nat} (hi : i < T.len) : 2 ≤ (T.kids i).kind ∧ (T.kids i).kind ≤ 29 := by
 unfold kl at h
 simp only [Bool.and_eq_true] at h
 obtain ⟨c, hc⟩ := qe _ _ _ h.2 i (by omega) hi
 exact Dg hc
def iw (T : Nd) : Bool := decide (T.kind = 1) && decide (T.size ≤ 600) && (T.pre 0).all fun p => kl p.1
theorem AE {T : Nd} {A B : List (Nd × Nat)} {p : Nd × Nat} (hT : T.kind = 1) (h : A ++ p :: B = T.pre 0) (hA : ∀ q ∈ A, kl q.1 = true) : 1 ≤ p.1.kind ∧ p.1.kind ≤ 29 := by
 rcases parent T 0 A B p h with ⟨_, hp⟩ | ⟨q, hq, i, hi, hp⟩
 ·rw [hp, hT]; omega
 ·rw [hp]; have := EC (hA q hq) hi; omega
theorem DI {T : Nd} {A B : List (Nd × Nat)} {p : Nd × Nat} (h : A ++ p :: B = T.pre 0) (hb : 600 < 1 + lens A + p.1.len ∨ kl p.1 = false) : iw T = false := by
 unfold iw
 rcases hb with hb | hb
 ·have hs := jN T 0
  rw [← h, jO] at hs
  have : lens (p :: B) = p.1.len + lens B := by simp [lens]
  have h6 : ¬ T.size ≤ 600 := by omega
  simp [h6]
 ·have : (T.pre 0).all (fun p => kl p.1) = false := by
   rw [← h, List.all_append, List.all_cons, hb]; simp
  rw [this, Bool.and_false]
theorem AR {T : Nd} (hT : T.kind = 1) (h6 : 1 + lens (T.pre 0) ≤ 600) (hA : ∀ q ∈ T.pre 0, kl q.1 = true) : iw T = true := by
 unfold iw
 have hs := jN T 0
 have h6' : T.size ≤ 600 := by omega
 have : (T.pre 0).all (fun p => kl p.1) = true := by rw [List.all_eq_true]; exact hA
 simp [hT, h6', this]
end Go.Proofs.YteaocammohcgoaaGreatDoor
