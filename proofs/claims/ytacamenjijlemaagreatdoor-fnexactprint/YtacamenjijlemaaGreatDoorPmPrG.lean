/- The specification's printer: a file. -/
import Derived.Test.YtacamenjijlemaaGreatDoorPmPrF
import Derived.Deep.RegionHeld
import Derived.WalkSpells
import Derived.WalkSmall
set_option linter.unusedVariables false
namespace Go.Proofs.YtacamenjijlemaaGreatDoor
open Go.RowKit

theorem func_ok {T : Nd} (h : funcB T = true) : (0 ≤ T.num ∧ T.num ≤ 3) ∧ 1 ≤ T.len ∧ (∀ i, i < T.len - 1 → 0 ≤ (T.kids i).num ∧ (T.kids i).num ≤ 3) ∧ ((T.kids (T.len - 1)).kind = 4 ∧ (T.kids (T.len - 1)).sOk = true) := by
  unfold funcB at h
  simp only [Bool.and_eq_true, decide_eq_true_eq] at h
  obtain ⟨⟨⟨⟨h1, h2⟩, h3⟩, h4⟩, h5, h6⟩ := h
  refine ⟨h3, h4, fun i hi => ?_, h6⟩
  have := allTo_iff.1 h5 i hi
  unfold paramB at this
  simp only [Bool.and_eq_true, decide_eq_true_eq] at this
  omega
/-- What stands ahead of a function's parameter, and it. -/
def parmT (T : Nd) (i : Nat) : List UInt8 := (if i = 0 then [] else [44, 32]) ++ ((T.kids i).name.data.toList ++ 32 :: typeT (T.kids i).num)
theorem funcT_eq (T : Nd) : funcT T = [102, 117, 110, 99, 32] ++ (T.name.data.toList ++ (40 :: (catTo (parmT T) (T.len - 1) ++ ([41, 32] ++
    ((if T.num = 0 then [] else typeT T.num ++ [32]) ++ (blockT 0 ((prN (T.kids (T.len - 1))).sts 1) ++ [10])))))) := rfl

set_option maxHeartbeats 8000000 in
set_option maxRecDepth 100000 in
theorem spec_l03 (T : Nd) (w : World) (v : Value) (hi : Nat) (hf : T.Fine) (hhi : hi ≤ w.heap.size) (hr : Row 0 hi w T v) (hok : ∀ i, i < T.len → funcB (T.kids i) = true) (hb : (fileT T).length ≤ 1099511627776) :
    Calls Tryz.prog 11 #[T.val v] w fun e w' => e = .returned (.string (strT (fileT T))) ∧ Below w.heap.size w w' := by
  have hn := T.fine_len hf
  obtain ⟨a, cap, rfl, hcap, _⟩ := row_eq.1 hr
  unfold Nd.val
  obtain ⟨w1, hw1⟩ : ∃ w1, w.alloc (.cells #[.int .i64 T.kind, .int .i64 T.num, .string T.name, .slice a T.len cap] 30) = w1 := ⟨_, rfl⟩
  have hz1 : w1.heap.size = w.heap.size + 1 := by rw [← hw1]; simp
  have hb1 : Below w.heap.size w w1 := by rw [← hw1]; exact (Below.refl _ _).alloc (Nat.le_refl _) _
  have hbuf := Buf.new w1
  have HP := hid_mk (Pst.start hbuf)
  obtain ⟨w2, hw2⟩ : ∃ w2, w1.alloc (.cells #[.slice none 0 0] 52) = w2 := ⟨_, rfl⟩
  have hb2 : Below w1.heap.size w1 w2 := by rw [← hw2]; exact (Below.refl _ _).alloc (Nat.le_refl _) _
  rw [hw2] at hbuf HP
  have HR := hid_mk (row_wide (row_below (hb1.trans (hb2.mono (by omega))) hhi hr) (Nat.le_refl _) (show hi ≤ w1.heap.size by omega))
  have HBX : Hid (∀ Y W, Pst w1.heap.size none w2 Y W → W.cell? ⟨w.heap.size, 0, none⟩ = some (.int .i64 T.kind) ∧ W.cell? ⟨w.heap.size, 1, none⟩ = some (.int .i64 T.num) ∧ W.cell? ⟨w.heap.size, 2, none⟩ = some (.string T.name) ∧ W.cell? ⟨w.heap.size, 3, none⟩ = some (.slice a T.len cap)) := by
    intro Y W h
    have e : ∀ o, W.cell? ⟨w.heap.size, o, none⟩ = w1.cell? ⟨w.heap.size, o, none⟩ := fun o => (h.below.cell (p := ⟨w.heap.size, o, none⟩) (by show w.heap.size < _; omega)).trans (hb2.cell (p := ⟨w.heap.size, o, none⟩) (by show w.heap.size < _; omega))
    rw [e, e, e, e, ← hw1]
    refine ⟨?_, ?_, ?_, ?_⟩ <;> simp [go_sem]
  have HBW : Hid (Below w.heap.size w w2) := hb1.trans (hb2.mono (by omega))
  have HF := hid_mk hf
  have HOK := hid_mk hok
  have HB := hid_mk hb
  have HFT : Hid (fileT T = catTo (fun i => (if i = 0 then [] else [10]) ++ funcT (T.kids i)) T.len) := rfl
  rw [HFT.out] at HB ⊢
  clear HFT hb hok hf hr hcap hb1 hb2 hbuf
  have HZ1 := hid_mk hz1
  clear hz1
  generalize hF : (fun i => (if i = 0 then [] else [10]) ++ funcT (T.kids i)) = F at *
  have HFE := hid_mk hF
  have HFL := hid_mk (fun i (h : i < T.len) => catTo_at F h)
  clear hF
  generalize T.name = ts at *
  generalize T.num = tn at *
  generalize T.kind = tk at *
  go_enter Tryz.func11, Tryz.ntmps11
  go_wp2
  clear hw1 hw2
  go_loopw [4] (fun i wr => ∃ j : Nat, j ≤ T.len ∧ i = .int .i64 j ∧ Hid (Pst w1.heap.size none w2 (catTo F j) wr)) (fun i _ => T.len - (intOf i).toNat)
  case atStart => exact ⟨0, by omega, rfl, HP⟩
  case round =>
    obtain ⟨j, hj, rfl, HP⟩ := hrel
    generalize wr = wf at *
    obtain ⟨b0, b1, b2, b3⟩ := HBX.out _ _ HP.out
    by_cases hlt : j < T.len
    · obtain ⟨g, off, cap', hv, hg, hcap, hk⟩ := kid_at HR.out (by omega)
      obtain ⟨rfl, rfl⟩ : a = some ⟨g, off, none⟩ ∧ cap = cap' := by injection hv with e1 e2 e3; exact ⟨e1, e3⟩
      obtain ⟨u, hc, hru⟩ := hk j hlt
      obtain ⟨c0, c1, c2, c3⟩ := hc _ HP.out.below
      have hfk := HOK.out j hlt
      obtain ⟨⟨hnu0, hnu3⟩, hL1, hPK, hkl, hsl⟩ := func_ok hfk
      have hcl := HFL.out j hlt
      have HFJE : Hid (F j = (if j = 0 then [] else [10]) ++ funcT (T.kids j)) := by rw [← HFE.out]; rfl
      have hfj := Nd.fine_kid HF.out hlt
      have hFL := Nd.fine_kid hfj (i := (T.kids j).len - 1) (by omega)
      obtain ⟨g2, off2, cap2, rfl, _, _, _⟩ := kid_at hru (by omega)
      obtain ⟨own, hbf, hjoin⟩ := HP.out.join
      have hmL : (T.kids j).len ≤ 9223372036854775807 := Nd.fine_len hfj
      have hru2 := row_alloc hbf (row_below HP.out.below (Nat.le_refl _) hru) (.cells #[.int .i64 (T.kids j).kind, .int .i64 (T.kids j).num, .string (T.kids j).name, .slice (some ⟨g2, off2, none⟩) (T.kids j).len cap2] 30)
      obtain ⟨g3, off3, cap3, he3, hg3, hcap3, hk2⟩ := kid_at hru2 (by omega)
      obtain ⟨rfl, rfl, rfl⟩ : g3 = g2 ∧ off3 = off2 ∧ cap3 = cap2 := by
        injection he3 with e1 e2 e3
        injection e1 with e1
        injection e1 with e1 e4
        exact ⟨e1.symm, e4.symm, e3.symm⟩
      clear hk hcap hv hru hru2 he3
      generalize T.kids j = K at *
      obtain ⟨m, hm⟩ : ∃ m, K.len = m + 1 := ⟨K.len - 1, by omega⟩
      have HKK := hid_mk hk2
      have HPK := hid_mk hPK
      have HSB := hid_mk (st_ok_4 hkl hsl)
      have HFB := hid_mk hFL
      have HBKC := hid_mk (block_of _ (pr_all (K.kids (K.len - 1))).sts)
      have HX := hid_mk (show catTo F (j + 1) = catTo F j ++ F j from rfl)
      rw [HFJE.out, funcT_eq] at HX hcl
      have HPL := hid_mk (fun i (h : i < K.len - 1) => catTo_at (parmT K) h)
      have HB2 : Hid ((catTo F j).length + ((if j = 0 then [] else [10] : List UInt8).length + (5 + (K.name.size + (1 + ((catTo (parmT K) (K.len - 1)).length + (2 + ((if K.num = 0 then [] else typeT K.num ++ [32]).length + ((blockT 0 ((prN (K.kids (K.len - 1))).sts 1)).length + 1)))))))) ≤ 1099511627776) := by
        have e : K.name.data.toList.length = K.name.size := rfl
        have := HB.out
        unfold Hid; simp only [List.length_append, List.length_cons, List.length_nil] at hcl; omega
      have hkn : K.name.size ≤ 1099511627776 := by have := HB2.out; omega
      have HPF := hid_mk (Pst.startB hbf (.cells #[.int .i64 K.kind, .int .i64 K.num, .string K.name, .slice (some ⟨g3, off3, none⟩) K.len cap3] 30))
      have HNF := hid_mk (Pst.node hbf (.int .i64 K.kind) (.int .i64 K.num) (.string K.name) (.slice (some ⟨g3, off3, none⟩) K.len cap3) 30)
      have HJ := hid_mk (fun Y W (h : Pst w1.heap.size own (wf.alloc (.cells #[.int .i64 K.kind, .int .i64 K.num, .string K.name, .slice (some ⟨g3, off3, none⟩) K.len cap3] 30)) Y W) => hjoin Y W _ h)
      simp only [hm, Nat.add_sub_cancel] at *
      clear HP hbf hjoin hkl hsl hPK hFL hfj hk2 hcl hm hfk HFJE hc
      have HP := HPF
      clear HPF
      by_cases hj0 : 0 < j
      · have hjn : j ≠ 0 := by omega
        go_wp2_with (go_at_call 19; refine (HP.out.add _ (by have := HB2.out; simp [hjn] at this ⊢; omega)).mono ?_; rintro e w3 ⟨rfl, hp⟩; obtain ⟨f0, f1, f2, f3⟩ := HNF.out _ _ hp; have HP := hid_mk hp; clear hp)
        go_loopw [7] (fun i W => ∃ k : Nat, k ≤ m ∧ i = .int .i64 k ∧ Hid (Pst w1.heap.size own (wf.alloc (.cells #[.int .i64 K.kind, .int .i64 K.num, .string K.name, .slice (some ⟨g3, off3, none⟩) (m + 1) cap3] 30)) (catTo F j ++ ((if j = 0 then [] else [10]) ++ ([102, 117, 110, 99, 32] ++ (K.name.data.toList ++ [40]))) ++ catTo (parmT K) k) W)) (fun i _ => m - (intOf i).toNat)
        case atStart => exact ⟨0, by omega, rfl, hid_mk (by simpa [catTo, hjn] using HP.out)⟩
        case round =>
          obtain ⟨k, hk, rfl, HP⟩ := hrel
          obtain ⟨f0, f1, f2, f3⟩ := HNF.out _ _ HP.out
          by_cases hkl : k < m
          · obtain ⟨uk, hck, hrk⟩ := HKK.out k (by omega)
            have hq := HPK.out k hkl
            have hq0 := hq.1
            have hq3 := hq.2
            have hcp := HPL.out k hkl
            have HXP : Hid (catTo (parmT K) (k + 1) = catTo (parmT K) k ++ ((if k = 0 then [] else [44, 32]) ++ ((K.kids k).name.data.toList ++ 32 :: typeT (K.kids k).num))) := rfl
            have hcp2 : (catTo (parmT K) k).length + ((if k = 0 then [] else [44, 32] : List UInt8).length + ((K.kids k).name.size + (1 + (typeT (K.kids k).num).length))) ≤ (catTo (parmT K) m).length := by
              have e : (K.kids k).name.data.toList.length = (K.kids k).name.size := rfl
              have e2 : (parmT K k).length = (if k = 0 then [] else [44, 32] : List UInt8).length + ((K.kids k).name.data.toList.length + ((typeT (K.kids k).num).length + 1)) := by unfold parmT; simp only [List.length_append, List.length_cons]
              omega
            have hnk : (K.kids k).name.size ≤ 1099511627776 := by have := HB2.out; omega
            have HTY := hid_mk (fun W : World => type_any (K.kids k).num hq0 hq3 W)
            have htz : (strT (typeT (K.kids k).num)).size = (typeT (K.kids k).num).length := rfl
            have hty : (strT (typeT (K.kids k).num)).size ≤ 1099511627776 := by have := HB2.out; omega
            have HTD : Hid ((strT (typeT (K.kids k).num)).data.toList = typeT (K.kids k).num) := rfl
            have HCK := hid_mk (fun Y W (h : Pst w1.heap.size own (wf.alloc (.cells #[.int .i64 K.kind, .int .i64 K.num, .string K.name, .slice (some ⟨g3, off3, none⟩) (m + 1) cap3] 30)) Y W) => hck W h.below)
            rw [← htz] at hcp2
            clear hck hrk hq hcp hq0 hq3 htz
            generalize K.kids k = PK at *
            rw [← HTD.out] at HXP
            generalize strT (typeT PK.num) = ty at *
            obtain ⟨p0, p1, p2, p3⟩ := HCK.out _ _ HP.out
            by_cases hk0 : 0 < k
            · have hkn2 : k ≠ 0 := by omega
              go_wp2_with (go_at_call 19; refine (HP.out.add _ (by have := HB2.out; simp [hkn2] at hcp2; simp at this ⊢; omega)).mono ?_; rintro e w3 ⟨rfl, hp⟩; obtain ⟨f0, f1, f2, f3⟩ := HNF.out _ _ hp; obtain ⟨p0, p1, p2, p3⟩ := HCK.out _ _ hp; have HP := hid_mk hp; clear hp)
              go_region_held (fun W => W.cell? ⟨wf.heap.size, 3, none⟩ = some (.slice (some ⟨g3, off3, none⟩) (m + 1) cap3) ∧ W.cell? ⟨g3, off3 + k * 4 + 2, none⟩ = some (.string PK.name) ∧ W.cell? ⟨g3, off3 + k * 4 + 1, none⟩ = some (.int .i64 PK.num)) (go_keep) (first
                | (go_at_call 20; refine (HTY.out _).mono ?_; rintro e w4 ⟨rfl, hb4⟩; have hp := HP.out.drew.calm hb4; obtain ⟨f0, f1, f2, f3⟩ := HNF.out _ _ hp; obtain ⟨p0, p1, p2, p3⟩ := HCK.out _ _ hp; have HP := hid_mk hp; clear hp hb4)
                | (go_at_call 19; refine (HP.out.add _ (by have := HB2.out; simp [hkn2] at hcp2; simp  at this ⊢; omega)).mono ?_; rintro e w5 ⟨rfl, hp⟩; obtain ⟨f0, f1, f2, f3⟩ := HNF.out _ _ hp; obtain ⟨p0, p1, p2, p3⟩ := HCK.out _ _ hp; have HP := hid_mk hp; clear hp))
              all_goals go_wp2
              all_goals exact ⟨⟨k + 1, by omega, by go_num, hid_mk (by rw [HXP.out]; simpa [hkn2] using HP.out)⟩, by simp [intOf]; omega⟩
            · obtain rfl : k = 0 := by omega
              simp only [Nat.zero_mul, Nat.add_zero] at p0 p1 p2 p3 HCK
              go_wp2
              go_region_held (fun W => W.cell? ⟨wf.heap.size, 3, none⟩ = some (.slice (some ⟨g3, off3, none⟩) (m + 1) cap3) ∧ W.cell? ⟨g3, off3 + 2, none⟩ = some (.string PK.name) ∧ W.cell? ⟨g3, off3 + 1, none⟩ = some (.int .i64 PK.num)) (go_keep) (first
                | (go_at_call 20; refine (HTY.out _).mono ?_; rintro e w4 ⟨rfl, hb4⟩; have hp := HP.out.drew.calm hb4; obtain ⟨f0, f1, f2, f3⟩ := HNF.out _ _ hp; obtain ⟨p0, p1, p2, p3⟩ := HCK.out _ _ hp; have HP := hid_mk hp; clear hp hb4)
                | (go_at_call 19; refine (HP.out.add _ (by have := HB2.out; simp [catTo] at hcp2; simp [catTo] at this ⊢; omega)).mono ?_; rintro e w5 ⟨rfl, hp⟩; obtain ⟨f0, f1, f2, f3⟩ := HNF.out _ _ hp; obtain ⟨p0, p1, p2, p3⟩ := HCK.out _ _ hp; have HP := hid_mk hp; clear hp))
              all_goals go_wp2
              all_goals exact ⟨⟨1, by omega, by go_num, hid_mk (by rw [HXP.out]; simpa [catTo] using HP.out)⟩, by simp [intOf]; omega⟩
          · obtain rfl : k = m := by omega
            obtain ⟨ul, hcl2, hrl⟩ := HKK.out k (by omega)
            have HCL := hid_mk (fun Y W (h : Pst w1.heap.size own (wf.alloc (.cells #[.int .i64 K.kind, .int .i64 K.num, .string K.name, .slice (some ⟨g3, off3, none⟩) (k + 1) cap3] 30)) Y W) => hcl2 W h.below)
            have HRL := hid_mk hrl
            have HTY := hid_mk (fun W : World => type_any K.num hnu0 hnu3 W)
            have htz : (strT (typeT K.num)).size = (typeT K.num).length := rfl
            have hlast : k < k + 1 := by omega
            clear hcl2 hrl
            generalize K.kids k = PL at *
            by_cases hnum : K.num = 0
            · have hnb : (K.num != 0) = false := by simp [hnum]
              rw [if_pos hnum] at HX HB2
              clear hnum HTY htz
              go_wp2_with (first
                | (go_at_call 19; refine (HP.out.add _ (by have := HB2.out; simp at this ⊢; omega)).mono ?_; rintro e w3 ⟨rfl, hp⟩; obtain ⟨f0, f1, f2, f3⟩ := HNF.out _ _ hp; obtain ⟨p0, p1, p2, p3⟩ := HCL.out _ _ hp; have HP := hid_mk hp; clear hp)
                | (go_at_call 21; refine (HP.out.block HBKC.out 0 ul HFB.out HRL.out HSB.out (by have := HB2.out; simp at this ⊢; omega)).mono ?_; rintro e w3 ⟨rfl, hp⟩; obtain ⟨f0, f1, f2, f3⟩ := HNF.out _ _ hp; have HP := hid_mk hp; clear hp))
              have HQ := hid_mk (HJ.out _ _ HP.out)
              exact ⟨⟨j + 1, by omega, by go_num, hid_mk (by rw [HX.out]; simpa using HQ.out)⟩, by simp [intOf]; omega⟩
            · have hnb : (K.num != 0) = true := by simp [hnum]
              rw [if_neg hnum] at HX HB2
              have hty : (strT (typeT K.num)).size ≤ 1099511627776 := by have := HB2.out; simp only [List.length_append] at this; omega
              have HTD : Hid ((strT (typeT K.num)).data.toList = typeT K.num) := rfl
              rw [← HTD.out] at HX HB2
              clear hnum htz
              generalize strT (typeT K.num) = ty at *
              go_wp2_with (first
                | (go_at_call 19; refine (HP.out.add _ (by have := HB2.out; simp at this ⊢; omega)).mono ?_; rintro e w3 ⟨rfl, hp⟩; obtain ⟨f0, f1, f2, f3⟩ := HNF.out _ _ hp; obtain ⟨p0, p1, p2, p3⟩ := HCL.out _ _ hp; have HP := hid_mk hp; clear hp)
                | (go_at_call 20; refine (HTY.out _).mono ?_; rintro e w4 ⟨rfl, hb4⟩; have hp := HP.out.calm hb4; obtain ⟨f0, f1, f2, f3⟩ := HNF.out _ _ hp; obtain ⟨p0, p1, p2, p3⟩ := HCL.out _ _ hp; have HP := hid_mk hp; clear hp hb4)
                | (go_at_call 21; refine (HP.out.block HBKC.out 0 ul HFB.out HRL.out HSB.out (by have := HB2.out; simp at this ⊢; omega)).mono ?_; rintro e w3 ⟨rfl, hp⟩; obtain ⟨f0, f1, f2, f3⟩ := HNF.out _ _ hp; have HP := hid_mk hp; clear hp))
              have HQ := hid_mk (HJ.out _ _ HP.out)
              exact ⟨⟨j + 1, by omega, by go_num, hid_mk (by rw [HX.out]; simpa using HQ.out)⟩, by simp [intOf]; omega⟩
      · obtain rfl : j = 0 := by omega
        simp only [Nat.zero_mul, Nat.add_zero] at c0 c1 c2 c3
        go_wp2_with (go_at_call 19; refine (HP.out.add _ (by have := HB2.out; simp at this ⊢; omega)).mono ?_; rintro e w3 ⟨rfl, hp⟩; obtain ⟨f0, f1, f2, f3⟩ := HNF.out _ _ hp; have HP := hid_mk hp; clear hp)
        go_loopw [7] (fun i W => ∃ k : Nat, k ≤ m ∧ i = .int .i64 k ∧ Hid (Pst w1.heap.size own (wf.alloc (.cells #[.int .i64 K.kind, .int .i64 K.num, .string K.name, .slice (some ⟨g3, off3, none⟩) (m + 1) cap3] 30)) (catTo F 0 ++ ((if (0 : Nat) = 0 then [] else [10]) ++ ([102, 117, 110, 99, 32] ++ (K.name.data.toList ++ [40]))) ++ catTo (parmT K) k) W)) (fun i _ => m - (intOf i).toNat)
        case atStart => exact ⟨0, by omega, rfl, hid_mk (by simpa [catTo] using HP.out)⟩
        case round =>
          obtain ⟨k, hk, rfl, HP⟩ := hrel
          obtain ⟨f0, f1, f2, f3⟩ := HNF.out _ _ HP.out
          by_cases hkl : k < m
          · obtain ⟨uk, hck, hrk⟩ := HKK.out k (by omega)
            have hq := HPK.out k hkl
            have hq0 := hq.1
            have hq3 := hq.2
            have hcp := HPL.out k hkl
            have HXP : Hid (catTo (parmT K) (k + 1) = catTo (parmT K) k ++ ((if k = 0 then [] else [44, 32]) ++ ((K.kids k).name.data.toList ++ 32 :: typeT (K.kids k).num))) := rfl
            have hcp2 : (catTo (parmT K) k).length + ((if k = 0 then [] else [44, 32] : List UInt8).length + ((K.kids k).name.size + (1 + (typeT (K.kids k).num).length))) ≤ (catTo (parmT K) m).length := by
              have e : (K.kids k).name.data.toList.length = (K.kids k).name.size := rfl
              have e2 : (parmT K k).length = (if k = 0 then [] else [44, 32] : List UInt8).length + ((K.kids k).name.data.toList.length + ((typeT (K.kids k).num).length + 1)) := by unfold parmT; simp only [List.length_append, List.length_cons]
              omega
            have hnk : (K.kids k).name.size ≤ 1099511627776 := by have := HB2.out; omega
            have HTY := hid_mk (fun W : World => type_any (K.kids k).num hq0 hq3 W)
            have htz : (strT (typeT (K.kids k).num)).size = (typeT (K.kids k).num).length := rfl
            have hty : (strT (typeT (K.kids k).num)).size ≤ 1099511627776 := by have := HB2.out; omega
            have HTD : Hid ((strT (typeT (K.kids k).num)).data.toList = typeT (K.kids k).num) := rfl
            have HCK := hid_mk (fun Y W (h : Pst w1.heap.size own (wf.alloc (.cells #[.int .i64 K.kind, .int .i64 K.num, .string K.name, .slice (some ⟨g3, off3, none⟩) (m + 1) cap3] 30)) Y W) => hck W h.below)
            rw [← htz] at hcp2
            clear hck hrk hq hcp hq0 hq3 htz
            generalize K.kids k = PK at *
            rw [← HTD.out] at HXP
            generalize strT (typeT PK.num) = ty at *
            obtain ⟨p0, p1, p2, p3⟩ := HCK.out _ _ HP.out
            by_cases hk0 : 0 < k
            · have hkn2 : k ≠ 0 := by omega
              go_wp2_with (go_at_call 19; refine (HP.out.add _ (by have := HB2.out; simp [hkn2] at hcp2; simp at this ⊢; omega)).mono ?_; rintro e w3 ⟨rfl, hp⟩; obtain ⟨f0, f1, f2, f3⟩ := HNF.out _ _ hp; obtain ⟨p0, p1, p2, p3⟩ := HCK.out _ _ hp; have HP := hid_mk hp; clear hp)
              go_region_held (fun W => W.cell? ⟨wf.heap.size, 3, none⟩ = some (.slice (some ⟨g3, off3, none⟩) (m + 1) cap3) ∧ W.cell? ⟨g3, off3 + k * 4 + 2, none⟩ = some (.string PK.name) ∧ W.cell? ⟨g3, off3 + k * 4 + 1, none⟩ = some (.int .i64 PK.num)) (go_keep) (first
                | (go_at_call 20; refine (HTY.out _).mono ?_; rintro e w4 ⟨rfl, hb4⟩; have hp := HP.out.drew.calm hb4; obtain ⟨f0, f1, f2, f3⟩ := HNF.out _ _ hp; obtain ⟨p0, p1, p2, p3⟩ := HCK.out _ _ hp; have HP := hid_mk hp; clear hp hb4)
                | (go_at_call 19; refine (HP.out.add _ (by have := HB2.out; simp [hkn2] at hcp2; simp  at this ⊢; omega)).mono ?_; rintro e w5 ⟨rfl, hp⟩; obtain ⟨f0, f1, f2, f3⟩ := HNF.out _ _ hp; obtain ⟨p0, p1, p2, p3⟩ := HCK.out _ _ hp; have HP := hid_mk hp; clear hp))
              all_goals go_wp2
              all_goals exact ⟨⟨k + 1, by omega, by go_num, hid_mk (by rw [HXP.out]; simpa [hkn2] using HP.out)⟩, by simp [intOf]; omega⟩
            · obtain rfl : k = 0 := by omega
              simp only [Nat.zero_mul, Nat.add_zero] at p0 p1 p2 p3 HCK
              go_wp2
              go_region_held (fun W => W.cell? ⟨wf.heap.size, 3, none⟩ = some (.slice (some ⟨g3, off3, none⟩) (m + 1) cap3) ∧ W.cell? ⟨g3, off3 + 2, none⟩ = some (.string PK.name) ∧ W.cell? ⟨g3, off3 + 1, none⟩ = some (.int .i64 PK.num)) (go_keep) (first
                | (go_at_call 20; refine (HTY.out _).mono ?_; rintro e w4 ⟨rfl, hb4⟩; have hp := HP.out.drew.calm hb4; obtain ⟨f0, f1, f2, f3⟩ := HNF.out _ _ hp; obtain ⟨p0, p1, p2, p3⟩ := HCK.out _ _ hp; have HP := hid_mk hp; clear hp hb4)
                | (go_at_call 19; refine (HP.out.add _ (by have := HB2.out; simp [catTo] at hcp2; simp [catTo] at this ⊢; omega)).mono ?_; rintro e w5 ⟨rfl, hp⟩; obtain ⟨f0, f1, f2, f3⟩ := HNF.out _ _ hp; obtain ⟨p0, p1, p2, p3⟩ := HCK.out _ _ hp; have HP := hid_mk hp; clear hp))
              all_goals go_wp2
              all_goals exact ⟨⟨1, by omega, by go_num, hid_mk (by rw [HXP.out]; simpa [catTo] using HP.out)⟩, by simp [intOf]; omega⟩
          · obtain rfl : k = m := by omega
            obtain ⟨ul, hcl2, hrl⟩ := HKK.out k (by omega)
            have HCL := hid_mk (fun Y W (h : Pst w1.heap.size own (wf.alloc (.cells #[.int .i64 K.kind, .int .i64 K.num, .string K.name, .slice (some ⟨g3, off3, none⟩) (k + 1) cap3] 30)) Y W) => hcl2 W h.below)
            have HRL := hid_mk hrl
            have HTY := hid_mk (fun W : World => type_any K.num hnu0 hnu3 W)
            have htz : (strT (typeT K.num)).size = (typeT K.num).length := rfl
            have hlast : k < k + 1 := by omega
            clear hcl2 hrl
            generalize K.kids k = PL at *
            by_cases hnum : K.num = 0
            · have hnb : (K.num != 0) = false := by simp [hnum]
              rw [if_pos hnum] at HX HB2
              clear hnum HTY htz
              go_wp2_with (first
                | (go_at_call 19; refine (HP.out.add _ (by have := HB2.out; simp at this ⊢; omega)).mono ?_; rintro e w3 ⟨rfl, hp⟩; obtain ⟨f0, f1, f2, f3⟩ := HNF.out _ _ hp; obtain ⟨p0, p1, p2, p3⟩ := HCL.out _ _ hp; have HP := hid_mk hp; clear hp)
                | (go_at_call 21; refine (HP.out.block HBKC.out 0 ul HFB.out HRL.out HSB.out (by have := HB2.out; simp at this ⊢; omega)).mono ?_; rintro e w3 ⟨rfl, hp⟩; obtain ⟨f0, f1, f2, f3⟩ := HNF.out _ _ hp; have HP := hid_mk hp; clear hp))
              have HQ := hid_mk (HJ.out _ _ HP.out)
              exact ⟨⟨1, by omega, by go_num, hid_mk (by rw [HX.out]; simpa using HQ.out)⟩, by simp [intOf]; omega⟩
            · have hnb : (K.num != 0) = true := by simp [hnum]
              rw [if_neg hnum] at HX HB2
              have hty : (strT (typeT K.num)).size ≤ 1099511627776 := by have := HB2.out; simp only [List.length_append] at this; omega
              have HTD : Hid ((strT (typeT K.num)).data.toList = typeT K.num) := rfl
              rw [← HTD.out] at HX HB2
              clear hnum htz
              generalize strT (typeT K.num) = ty at *
              go_wp2_with (first
                | (go_at_call 19; refine (HP.out.add _ (by have := HB2.out; simp at this ⊢; omega)).mono ?_; rintro e w3 ⟨rfl, hp⟩; obtain ⟨f0, f1, f2, f3⟩ := HNF.out _ _ hp; obtain ⟨p0, p1, p2, p3⟩ := HCL.out _ _ hp; have HP := hid_mk hp; clear hp)
                | (go_at_call 20; refine (HTY.out _).mono ?_; rintro e w4 ⟨rfl, hb4⟩; have hp := HP.out.calm hb4; obtain ⟨f0, f1, f2, f3⟩ := HNF.out _ _ hp; obtain ⟨p0, p1, p2, p3⟩ := HCL.out _ _ hp; have HP := hid_mk hp; clear hp hb4)
                | (go_at_call 21; refine (HP.out.block HBKC.out 0 ul HFB.out HRL.out HSB.out (by have := HB2.out; simp at this ⊢; omega)).mono ?_; rintro e w3 ⟨rfl, hp⟩; obtain ⟨f0, f1, f2, f3⟩ := HNF.out _ _ hp; have HP := hid_mk hp; clear hp))
              have HQ := hid_mk (HJ.out _ _ HP.out)
              exact ⟨⟨1, by omega, by go_num, hid_mk (by rw [HX.out]; simpa using HQ.out)⟩, by simp [intOf]; omega⟩
    · obtain rfl : j = T.len := by omega
      obtain ⟨own, hbf, _⟩ := HP.out.buf
      obtain ⟨sa, sl, sc, k0, hcv⟩ := conv_buf hbf
      have HBE := hid_mk (HBW.out.trans (HP.out.below.mono (by have := HZ1.out; omega)))
      clear hbf
      go_wp2
      go_ret
      exact ⟨rfl, HBE.out⟩
end Go.Proofs.YtacamenjijlemaaGreatDoor
