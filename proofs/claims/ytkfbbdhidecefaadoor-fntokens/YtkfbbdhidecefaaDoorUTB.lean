import Derived.Test.YtkfbbdhidecefaaDoorUTA
set_option linter.unusedVariables false
set_option maxHeartbeats 16000000
set_option maxRecDepth 100000
namespace Go.Proofs.YtkfbbdhidecefaaDoor
open Go.RowKit
variable {G : Prop}
theorem bg0 (h : G := by
 rw [cG] at HW
 have HB := aa hb
 clear hE hb hr hf ax ai hk cG
 generalize (if T.len = 0 then [] else (aO (T.kids 0)).ex 1) = tail at *
 generalize T.name = ts at *
 generalize T.num = tn at *
 go_enter Tryd.func65, Tryd.ntmps65
 go_wp2_with (first
  |(go_at_call 80; refine (HW.out _ _ _ HP.out (by have := HB.out; simp at this ⊢; omega)).mono ?_; rintro e w2 ⟨rfl, hp⟩; obtain ⟨b0, b1, b2, b3⟩ := HN.out _ _ hp; have HP := aa hp; clear hp)
  |(go_at_call 22; refine (HP.out.add _ (by have := HB.out; simp at this ⊢; omega)).mono ?_; rintro e w2 ⟨rfl, hp⟩; obtain ⟨b0, b1, b2, b3⟩ := HN.out _ _ hp; have HP := aa hp; clear hp))
 go_end0
 exact HP.out.addsB (by simp)) : G := h
theorem bg1 (h : G := by
 rw [cG] at HW
 have hs : T.name.size ≤ 1099511627776 := by
  have := hb
  simp at this
  omega
 exact bg6) : G := h
theorem bg2 (h : G := by
 rw [cG] at HW
 exact bg6) : G := h
theorem bg3 (h : G := by
 have HB := aa hb
 clear hb hr hf ax ai hk cG
 exact bg7) : G := h
theorem bg4 (h : G := by
 rw [aG, hk] at h
 simp [aJ] at h
 exact xE (P := fun i => (T.kids i).eOk = true) (Ra h.2).2) : G := h
theorem TN (h : G := by
 rw [aG, hk] at h
 simp [aJ] at h
 exact xE (P := fun i => (T.kids i).eOk = true) (pE h.2).2) : G := h
theorem bg6 (h : G := by
 have HB := aa hb
 clear hE hb hr hf ax ai hk cG
 exact bg8) : G := h
theorem bg7 (h : G := by
 generalize T.name = ts at *
 generalize T.num = tn at *
 go_enter Tryd.func65, Tryd.ntmps65
 go_wp2_with (first
  |(go_at_call 22; refine (HP.out.add _ (by have := HB.out; simp at this ⊢; omega)).mono ?_; rintro e w2 ⟨rfl, hp⟩; obtain ⟨b0, b1, b2, b3⟩ := HN.out _ _ hp; have HP := aa hp; clear hp))
 go_end0
 exact HP.out.addsB (by simp)) : G := h
theorem bg8 (h : G := by
 generalize (if T.len = 0 then [] else (aO (T.kids 0)).ex 1) = tail at *
 generalize T.name = ts at *
 generalize T.num = tn at *
 go_enter Tryd.func65, Tryd.ntmps65
 go_wp2_with (first
  |(go_at_call 80; refine (HW.out _ _ _ HP.out (by have := HB.out; simp at this ⊢; omega)).mono ?_; rintro e w2 ⟨rfl, hp⟩; obtain ⟨b0, b1, b2, b3⟩ := HN.out _ _ hp; have HP := aa hp; clear hp))
 go_end0
 exact HP.out.addsB (by simp)) : G := h
theorem bg9 (h : G := by
 have HP := aa (Pst.startB ai (.cells #[.int .i64 T.kind, .int .i64 T.num, .string T.name, .slice a T.len cap] 27))
 have HN := aa (Pst.node ai (.int .i64 T.kind) (.int .i64 T.num) (.string T.name) (.slice a T.len cap) 27)
 have HR := aa (aK ai hr (.cells #[.int .i64 T.kind, .int .i64 T.num, .string T.name, .slice a T.len cap] 27))
 first
 |clear k_g9_0
  have HE := aa hE
  have HI := aa ih
  have HF := aa hf
  have HB := aa hb
  unfold Nd.val
  clear hb hr hf hE ai ih bQ
  go_enter Tryd.func24, Tryd.ntmps24
  go_wp2_with (first
   |(go_at_call 45; refine (HP.out.tabs d (by have := HB.out; simp [aV, bI] at this ⊢; omega)).mono ?_; rintro e w2 ⟨rfl, hp⟩; obtain ⟨b0, b1, b2, b3⟩ := HN.out _ _ hp; have HP := aa hp; clear hp)
   |(go_at_call 22; (refine (HP.out.add _ (by have := HB.out; simp [aV, bI] at this ⊢; omega)).mono ?_; rintro e w2 ⟨rfl, hp⟩; obtain ⟨b0, b1, b2, b3⟩ := HN.out _ _ hp; have HP := aa hp; clear hp))
   |(go_at_call 44; refine (HP.out.sts HI.out (d + 1) _ HF.out HR.out HE.out (by have := HB.out; simp [aV, bI] at this ⊢; omega)).mono ?_; rintro e w2 ⟨rfl, hp⟩; obtain ⟨b0, b1, b2, b3⟩ := HN.out _ _ hp; have HP := aa hp; clear hp))
  go_end0
  exact HP.out.addsB (by simp [aV])
 |clear k_g9_1
  have HI := aa ih
  have HF := aa hf
  have HB := aa hb
  clear hb hr hf hE ai ih bQ
  generalize hF : (fun i => bI d ++ ((aO (T.kids i)).st d ++ [10])) = F at *
  have EK := aa hF
  have PH := aa (fun i (h : i < T.len) => pO F h)
  clear hF
  generalize T.name = ts at *
  generalize T.num = tn at *
  generalize T.kind = tk at *
  go_enter Tryd.func44, Tryd.ntmps44
  go_wp2
  go_loopw [6] (fun i wr => ∃ j : Nat, j ≤ T.len ∧ i = .int .i64 j ∧ Hid (Pst ob own (w.alloc (.cells #[.int .i64 tk, .int .i64 tn, .string ts, .slice a T.len cap] 27)) (X ++ aX F j) wr)) (fun i _ => T.len - (intOf i).toNat)
  case atStart => exact ⟨0, by omega, rfl, aa (by simpa [aX] using HP.out)⟩
  case round =>
   obtain ⟨j, hj, rfl, HP⟩ := hrel
   obtain ⟨b0, b1, b2, b3⟩ := HN.out _ _ HP.out
   by_cases bm : j < T.len
   ·obtain ⟨g, off, ph, hv, hg, bQ, hk⟩ := nt HR.out (by omega)
    obtain ⟨rfl, rfl⟩ : a = some ⟨g, off, none⟩ ∧ cap = ph := by injection hv with e1 e2 e3; exact ⟨e1, e3⟩
    obtain ⟨u, hc, Eh⟩ := hk j bm
    have HC := aa hc
    have Qo := aa Eh
    have sf := PH.out j bm
    have Qu := aa (HI.out j bm)
    have vR := aa (Nd.fine_kid HF.out bm)
    have HEJ := aa (HE.out j bm)
    have tC : Hid (F j = bI d ++ ((aO (T.kids j)).st d ++ [10])) := by rw [← EK.out]; rfl
    have zQ : (aX F j).length + (d + (((aO (T.kids j)).st d).length + 1)) ≤ (aX F T.len).length := by rw [tC.out] at sf; simpa [bI] using sf
    clear hk hc Eh sf hv bQ
    generalize T.kids j = K at *
    have HX : Hid (aX F (j + 1) = aX F j ++ (bI d ++ ((aO K).st d ++ [10]))) := by unfold Hid; rw [← tC.out]; rfl
    go_wp2_with (first
     |(go_at_call 45; refine (HP.out.tabs d (by have := HB.out; simp; omega)).mono ?_; rintro e w2 ⟨rfl, hp⟩; obtain ⟨b0, b1, b2, b3⟩ := HN.out _ _ hp; obtain ⟨c0, c1, c2, c3⟩ := HC.out _ hp.below; have HP := aa hp; clear hp)
     |(go_at_call 22; refine (HP.out.add _ (by have := HB.out; simp [bI]; omega)).mono ?_; rintro e w2 ⟨rfl, hp⟩; obtain ⟨b0, b1, b2, b3⟩ := HN.out _ _ hp; have HP := aa hp; clear hp)
     |(go_at_call 65; refine (HP.out.stmt Qu.out d u vR.out Qo.out HEJ.out (by have := HB.out; simp [bI]; omega)).mono ?_; rintro e w2 ⟨rfl, hp⟩; obtain ⟨b0, b1, b2, b3⟩ := HN.out _ _ hp; have HP := aa hp; clear hp))
    exact ⟨⟨j + 1, by omega, by go_num, aa (by rw [HX.out]; simpa using HP.out)⟩, by simp [intOf]; omega⟩
   ·obtain rfl : j = T.len := by omega
    go_wp2
    go_end0
    exact HP.out.addsB (by simp)) : G := h
theorem TO (h : G := by
 obtain ⟨g, off, cap, rfl, hg, bQ, bz⟩ := nt hr (by omega)
 obtain ⟨u0, iW, gV⟩ := bz 0 (by omega)
 simp only [Nat.zero_mul, Nat.add_zero] at iW
 have mj : 0 < T.len := by omega
 first
 |clear k_g10_0
  obtain ⟨u1, iQ, mi⟩ := bz 1 (by omega)
  simp only [Nat.one_mul] at iQ
  have qV : 1 < T.len := by omega
  have cG : T.val (.slice (some ⟨g, off, none⟩) T.len cap) = .agg #[.int .i64 8, .int .i64 T.num, .string T.name, .slice (some ⟨g, off, none⟩) T.len cap] := by unfold Nd.val; rw [hk]
  rw [cG]
  have HP := aa (Pst.startB ai (.cells #[.int .i64 8, .int .i64 T.num, .string T.name, .slice (some ⟨g, off, none⟩) T.len cap] 27))
  have HN := aa (Pst.node ai (.int .i64 8) (.int .i64 T.num) (.string T.name) (.slice (some ⟨g, off, none⟩) T.len cap) 27)
  have gY := aa (fun Y W (h : Pst ob own (w.alloc (.cells #[.int .i64 8, .int .i64 T.num, .string T.name, .slice (some ⟨g, off, none⟩) T.len cap] 27)) Y W) => iW W (h.belowB ai))
  have sV := aa (aK ai gV (.cells #[.int .i64 8, .int .i64 T.num, .string T.name, .slice (some ⟨g, off, none⟩) T.len cap] 27))
  have tS := aa (lC (T.kids 0))
  have tD := aa (Nd.fine_kid hf mj)
  have mI := aa (fun Y W (h : Pst ob own (w.alloc (.cells #[.int .i64 8, .int .i64 T.num, .string T.name, .slice (some ⟨g, off, none⟩) T.len cap] 27)) Y W) => iQ W (h.belowB ai))
  have C5 := aa (aK ai mi (.cells #[.int .i64 8, .int .i64 T.num, .string T.name, .slice (some ⟨g, off, none⟩) T.len cap] 27))
  have M9 := aa (lC (T.kids 1))
  have II := aa (Nd.fine_kid hf qV)
  have HB := aa hb
  clear hlen si KJ hb hr hf ax ai hk cG iW gV iQ mi bz bQ
  obtain ⟨ja, iZ, iY, iX⟩ := gY.out _ _ HP.out
  obtain ⟨om, oe, oj, oc⟩ := mI.out _ _ HP.out
  generalize T.kids 0 = K0 at *
  generalize T.kids 1 = K1 at *
  generalize T.name = ts at *
  generalize T.num = tn at *
  go_enter Tryd.func65, Tryd.ntmps65
  go_wp2_with (first
   |(go_at_call 22; refine (HP.out.add _ (by have := HB.out; simp at this ⊢; omega)).mono ?_; rintro e w2 ⟨rfl, hp⟩; obtain ⟨b0, b1, b2, b3⟩ := HN.out _ _ hp; obtain ⟨ja, iZ, iY, iX⟩ := gY.out _ _ hp; obtain ⟨om, oe, oj, oc⟩ := mI.out _ _ hp; have HP := aa hp; clear hp)
   |(go_at_call_of 81 u0; refine (HP.out.expr tS.out 1 u0 tD.out sV.out tE.out (by decide) (by have := HB.out; simp at this ⊢; omega)).mono ?_; rintro e w2 ⟨rfl, hp⟩; obtain ⟨b0, b1, b2, b3⟩ := HN.out _ _ hp; obtain ⟨ja, iZ, iY, iX⟩ := gY.out _ _ hp; obtain ⟨om, oe, oj, oc⟩ := mI.out _ _ hp; have HP := aa hp; clear hp)
   |(go_at_call_of 81 u1; refine (HP.out.expr M9.out 1 u1 II.out C5.out Ar.out (by decide) (by have := HB.out; simp at this ⊢; omega)).mono ?_; rintro e w2 ⟨rfl, hp⟩; obtain ⟨b0, b1, b2, b3⟩ := HN.out _ _ hp; obtain ⟨ja, iZ, iY, iX⟩ := gY.out _ _ hp; obtain ⟨om, oe, oj, oc⟩ := mI.out _ _ hp; have HP := aa hp; clear hp))
  go_end0
  exact HP.out.addsB (by simp)
 |clear k_g10_1
  have cG : T.val (.slice (some ⟨g, off, none⟩) T.len cap) = .agg #[.int .i64 9, .int .i64 T.num, .string T.name, .slice (some ⟨g, off, none⟩) T.len cap] := by unfold Nd.val; rw [hk]
  rw [cG]
  have HP := aa (Pst.startB ai (.cells #[.int .i64 9, .int .i64 T.num, .string T.name, .slice (some ⟨g, off, none⟩) T.len cap] 27))
  have HN := aa (Pst.node ai (.int .i64 9) (.int .i64 T.num) (.string T.name) (.slice (some ⟨g, off, none⟩) T.len cap) 27)
  have gY := aa (fun Y W (h : Pst ob own (w.alloc (.cells #[.int .i64 9, .int .i64 T.num, .string T.name, .slice (some ⟨g, off, none⟩) T.len cap] 27)) Y W) => iW W (h.belowB ai))
  have sV := aa (aK ai gV (.cells #[.int .i64 9, .int .i64 T.num, .string T.name, .slice (some ⟨g, off, none⟩) T.len cap] 27))
  have tS := aa (lC (T.kids 0))
  have tD := aa (Nd.fine_kid hf mj)
  have HB := aa hb
  clear hlen si hb hr hf ax ai hk cG iW gV bz bQ
  obtain ⟨ja, iZ, iY, iX⟩ := gY.out _ _ HP.out
  generalize T.kids 0 = K0 at *
  generalize T.name = ts at *
  generalize T.num = tn at *
  go_enter Tryd.func65, Tryd.ntmps65
  go_wp2_with (first
   |(go_at_call_of 81 u0; refine (HP.out.expr tS.out 1 u0 tD.out sV.out tE.out (by decide) (by have := HB.out; simp at this ⊢; omega)).mono ?_; rintro e w2 ⟨rfl, hp⟩; obtain ⟨b0, b1, b2, b3⟩ := HN.out _ _ hp; obtain ⟨ja, iZ, iY, iX⟩ := gY.out _ _ hp; have HP := aa hp; clear hp))
  go_end0
  exact HP.out.addsB (by simp)) : G := h
def r6 (T : Nd) : Prop := ∀ (ob : Nat) (own : Option Nat) (X : List UInt8) (d : Nat) (w : World) (v : Value), Buf ob w own X → T.Fine → Row 0 ob w T v → (∀ i, i < T.len → (T.kids i).sOk = true) →
 X.length + ((aO T).sts d).length ≤ 1099511627776 → Calls Tryd.prog 44 #[.pointer (some ⟨ob, 0, none⟩), T.val v, .int .i64 d] w (vJ ob X ((aO T).sts d) own w)
def BkC (T : Nd) : Prop := ∀ (ob : Nat) (own : Option Nat) (X : List UInt8) (d : Nat) (w : World) (v : Value), Buf ob w own X → T.Fine → Row 0 ob w T v → (∀ i, i < T.len → (T.kids i).sOk = true) →
 X.length + (aV d ((aO T).sts (d + 1))).length ≤ 1099511627776 → Calls Tryd.prog 24 #[.pointer (some ⟨ob, 0, none⟩), T.val v, .int .i64 d] w (vJ ob X (aV d ((aO T).sts (d + 1))) own w)
theorem Pst.sts {T : Nd} (hT : r6 T) {ob : Nat} {ah : Option Nat} {w0 w : World} {Y : List UInt8} (h : Pst ob ah w0 Y w) (d : Nat) (v : Value) (hf : T.Fine) (hr : Row 0 ob w0 T v) (ax : ∀ i, i < T.len → (T.kids i).sOk = true) (hb : Y.length + ((aO T).sts d).length ≤ 1099511627776) :
  Calls Tryd.prog 44 #[.pointer (some ⟨ob, 0, none⟩), T.val v, .int .i64 d] w fun e w' => e = .returned (.tuple #[]) ∧ Pst ob ah w0 (Y ++ (aO T).sts d) w' :=
 h.lift fun own ai => hT ob own Y d w v ai hf (ae h.below lr hr) ax hb
theorem Pst.block {T : Nd} (hT : BkC T) {ob : Nat} {ah : Option Nat} {w0 w : World} {Y : List UInt8} (h : Pst ob ah w0 Y w) (d : Nat) (v : Value) (hf : T.Fine) (hr : Row 0 ob w0 T v) (ax : ∀ i, i < T.len → (T.kids i).sOk = true) (hb : Y.length + (aV d ((aO T).sts (d + 1))).length ≤ 1099511627776) :
  Calls Tryd.prog 24 #[.pointer (some ⟨ob, 0, none⟩), T.val v, .int .i64 d] w fun e w' => e = .returned (.tuple #[]) ∧ Pst ob ah w0 (Y ++ aV d ((aO T).sts (d + 1))) w' :=
 h.lift fun own ai => hT ob own Y d w v ai hf (ae h.below lr hr) ax hb
theorem FN (T : Nd) (ih : ∀ i, i < T.len → vP (T.kids i)) : r6 T := by
 intro ob own X d w v ai hf hr hE hb
 have hn := T.fine_len hf
 obtain ⟨a, cap, rfl, bQ, _⟩ := ar.1 hr
 rw [xX] at hb ⊢
 have HE := aa hE
 unfold Nd.val
 have k_g9_1 := kk
 exact bg9
theorem pS (T : Nd) (ih : r6 T) : BkC T := by
 intro ob own X d w v ai hf hr hE hb
 have hn := T.fine_len hf
 have hd : d ≤ 1099511627776 := by have := hb; simp [aV, bI] at this; omega
 obtain ⟨a, cap, rfl, bQ, _⟩ := ar.1 hr
 have k_g9_0 := kk
 exact bg9
theorem Dc (T : Nd) (s : ByteArray) (ob : Nat) (own : Option Nat) (X : List UInt8) (w : World) (v : Value) (ai : Buf ob w own X) (hf : T.Fine) (hr : Row 0 ob w T v) (hE : ∀ i, i < T.len → i = 0 → (T.kids i).eOk = true)
  (hb : X.length + (s.data.toList ++ (if T.len = 0 then [] else (aO (T.kids 0)).ex 1)).length ≤ 1099511627776) :
  Calls Tryd.prog 80 #[.pointer (some ⟨ob, 0, none⟩), .string s, T.val v] w (vJ ob X (s.data.toList ++ (if T.len = 0 then [] else (aO (T.kids 0)).ex 1)) own w) := by
 have hn := T.fine_len hf
 by_cases h0 : T.len = 0
 ·obtain ⟨a, cap, rfl, bQ, _⟩ := ar.1 hr
  rw [if_pos h0] at hb ⊢
  unfold Nd.val
  rw [h0]
  have HP := aa (Pst.startB ai (.cells #[.int .i64 T.kind, .int .i64 T.num, .string T.name, .slice a 0 cap] 27))
  have HN := aa (Pst.node ai (.int .i64 T.kind) (.int .i64 T.num) (.string T.name) (.slice a 0 cap) 27)
  have HB := aa hb
  clear hb hr hf hE ai bQ h0
  generalize T.name = ts at *
  generalize T.num = tn at *
  generalize T.kind = tk at *
  go_enter Tryd.func80, Tryd.ntmps80
  go_wp2_with (go_at_call 22; refine (HP.out.add _ (by have := HB.out; simp at this ⊢; omega)).mono ?_; rintro e w2 ⟨rfl, hp⟩; obtain ⟨b0, b1, b2, b3⟩ := HN.out _ _ hp; have HP := aa hp; clear hp)
  go_end0
  exact HP.out.addsB (by simp)
 ·obtain ⟨g, off, cap, rfl, hg, bQ, bz⟩ := nt hr h0
  obtain ⟨u0, iW, gV⟩ := bz 0 (by omega)
  simp only [Nat.zero_mul, Nat.add_zero] at iW
  have mj : 0 < T.len := by omega
  rw [if_neg h0] at hb ⊢
  unfold Nd.val
  have HP := aa (Pst.startB ai (.cells #[.int .i64 T.kind, .int .i64 T.num, .string T.name, .slice (some ⟨g, off, none⟩) T.len cap] 27))
  have HN := aa (Pst.node ai (.int .i64 T.kind) (.int .i64 T.num) (.string T.name) (.slice (some ⟨g, off, none⟩) T.len cap) 27)
  have gY := aa (fun Y W (h : Pst ob own (w.alloc (.cells #[.int .i64 T.kind, .int .i64 T.num, .string T.name, .slice (some ⟨g, off, none⟩) T.len cap] 27)) Y W) => iW W (h.belowB ai))
  have sV := aa (aK ai gV (.cells #[.int .i64 T.kind, .int .i64 T.num, .string T.name, .slice (some ⟨g, off, none⟩) T.len cap] 27))
  have tS := aa (lC (T.kids 0))
  have tD := aa (Nd.fine_kid hf mj)
  have tE := aa (hE 0 mj rfl)
  have HB := aa hb
  clear hb hr hf hE ai bQ h0 iW gV bz
  generalize T.kids 0 = K0 at *
  generalize T.name = ts at *
  generalize T.num = tn at *
  generalize T.kind = tk at *
  go_enter Tryd.func80, Tryd.ntmps80
  go_wp2_with (first
   |(go_at_call 22; refine (HP.out.add _ (by have := HB.out; simp at this ⊢; omega)).mono ?_; rintro e w2 ⟨rfl, hp⟩; obtain ⟨b0, b1, b2, b3⟩ := HN.out _ _ hp; obtain ⟨ja, iZ, iY, iX⟩ := gY.out _ _ hp; have HP := aa hp; clear hp)
   |(go_at_call_of 81 u0; refine (HP.out.expr tS.out 1 u0 tD.out sV.out tE.out (by decide) (by have := HB.out; simp at this ⊢; omega)).mono ?_; rintro e w2 ⟨rfl, hp⟩; obtain ⟨b0, b1, b2, b3⟩ := HN.out _ _ hp; obtain ⟨ja, iZ, iY, iX⟩ := gY.out _ _ hp; have HP := aa hp; clear hp))
  go_end0
  exact HP.out.addsB (by simp)
theorem Pst.word {T : Nd} {ob : Nat} {ah : Option Nat} {w0 w : World} {Y : List UInt8} (h : Pst ob ah w0 Y w) (s : ByteArray) (v : Value) (hf : T.Fine) (hr : Row 0 ob w0 T v) (hE : ∀ i, i < T.len → i = 0 → (T.kids i).eOk = true) (hb : Y.length + (s.data.toList ++ (if T.len = 0 then [] else (aO (T.kids 0)).ex 1)).length ≤ 1099511627776) :
  Calls Tryd.prog 80 #[.pointer (some ⟨ob, 0, none⟩), .string s, T.val v] w fun e w' => e = .returned (.tuple #[]) ∧ Pst ob ah w0 (Y ++ (s.data.toList ++ (if T.len = 0 then [] else (aO (T.kids 0)).ex 1))) w' :=
 h.lift fun own ai => Dc T s ob own Y w v ai hf (ae h.below lr hr) hE hb
theorem sz (T : Nd) (hk : T.kind = 5) (d : Nat) : (aO T).st d = (T.name.data.toList ++ [32, 58, 61, 32]) ++ (if T.len = 0 then [] else (aO (T.kids 0)).ex 1) := by
 cases T with
 |nil => simp [Nd.kind] at hk
 |mk k n s len kids => obtain rfl : k = 5 := hk; rfl
theorem sy (T : Nd) (hk : T.kind = 6) (d : Nat) : (aO T).st d = (T.name.data.toList ++ [32, 61, 32]) ++ (if T.len = 0 then [] else (aO (T.kids 0)).ex 1) := by
 cases T with
 |nil => simp [Nd.kind] at hk
 |mk k n s len kids => obtain rfl : k = 6 := hk; rfl
theorem sw (T : Nd) (hk : T.kind = 7) (d : Nat) : (aO T).st d = T.name.data.toList ++ (if T.num = 1 then [43, 43] else [45, 45]) := by
 cases T with
 |nil => simp [Nd.kind] at hk
 |mk k n s len kids => obtain rfl : k = 7 := hk; rfl
theorem su (T : Nd) (hk : T.kind = 8) (d : Nat) : (aO T).st d = (aO (T.kids 0)).ex 1 ++ ([32, 60, 45, 32] ++ (aO (T.kids 1)).ex 1) := by
 cases T with
 |nil => simp [Nd.kind] at hk
 |mk k n s len kids => obtain rfl : k = 8 := hk; rfl
theorem sr (T : Nd) (hk : T.kind = 9) (d : Nat) : (aO T).st d = (aO (T.kids 0)).ex 1 := by
 cases T with
 |nil => simp [Nd.kind] at hk
 |mk k n s len kids => obtain rfl : k = 9 := hk; rfl
theorem oM (T : Nd) (hk : T.kind = 12) (d : Nat) : (aO T).st d = (if T.len = 0 then [114, 101, 116, 117, 114, 110] else [114, 101, 116, 117, 114, 110, 32] ++ (if T.len = 0 then [] else (aO (T.kids 0)).ex 1)) := by
 cases T with
 |nil => simp [Nd.kind] at hk
 |mk k n s len kids => obtain rfl : k = 12 := hk; rfl
theorem qO (T : Nd) (hk : T.kind = 13) (d : Nat) : (aO T).st d = [103, 111, 32] ++ (if T.len = 0 then [] else (aO (T.kids 0)).ex 1) := by
 cases T with
 |nil => simp [Nd.kind] at hk
 |mk k n s len kids => obtain rfl : k = 13 := hk; rfl
theorem qN (T : Nd) (hk : T.kind = 14) (d : Nat) : (aO T).st d = [100, 101, 102, 101, 114, 32] ++ (if T.len = 0 then [] else (aO (T.kids 0)).ex 1) := by
 cases T with
 |nil => simp [Nd.kind] at hk
 |mk k n s len kids => obtain rfl : k = 14 := hk; rfl
theorem qL (T : Nd) (hk : T.kind = 17) (d : Nat) : (aO T).st d = [98, 114, 101, 97, 107] := by
 cases T with
 |nil => simp [Nd.kind] at hk
 |mk k n s len kids => obtain rfl : k = 17 := hk; rfl
theorem qK (T : Nd) (hk : T.kind = 18) (d : Nat) : (aO T).st d = [99, 111, 110, 116, 105, 110, 117, 101] := by
 cases T with
 |nil => simp [Nd.kind] at hk
 |mk k n s len kids => obtain rfl : k = 18 := hk; rfl
theorem qJ (T : Nd) (hk : T.kind = 19) (d : Nat) : (aO T).st d = ([99, 108, 111, 115, 101, 40] ++ (if T.len = 0 then [] else (aO (T.kids 0)).ex 1)) ++ [41] := by
 cases T with
 |nil => simp [Nd.kind] at hk
 |mk k n s len kids => obtain rfl : k = 19 := hk; rfl
theorem qI (T : Nd) (hk : T.kind = 20) (d : Nat) : (aO T).st d = ([112, 114, 105, 110, 116, 40] ++ (if T.len = 0 then [] else (aO (T.kids 0)).ex 1)) ++ [41] := by
 cases T with
 |nil => simp [Nd.kind] at hk
 |mk k n s len kids => obtain rfl : k = 20 := hk; rfl
theorem qH (T : Nd) (hk : T.kind = 21) (d : Nat) : (aO T).st d = ([112, 97, 110, 105, 99, 40] ++ (if T.len = 0 then [] else (aO (T.kids 0)).ex 1)) ++ [41] := by
 cases T with
 |nil => simp [Nd.kind] at hk
 |mk k n s len kids => obtain rfl : k = 21 := hk; rfl
theorem Ra {e st : Nat → Bool} {kk : Nat → Int} {len : Nat} (h : aE e st kk len ⟨#[99]⟩ = true) : len = 1 ∧ e 0 = true := by
 unfold aE at h
 simp only [Bool.and_eq_true, decide_eq_true_eq] at h
 refine ⟨h.1, ?_⟩
 have := bD.1 h.2 0 (by decide)
 simp [fU] at this
 exact this.2
theorem xE {T : Nd} {P : Nat → Prop} (h : P 0) : ∀ i, i < T.len → i = 0 → P i := fun i _ e => e ▸ h
theorem xP {T : Nd} (hk : T.kind = 5) (h : T.sOk = true) : ∀ i, i < T.len → i = 0 → (T.kids i).eOk = true := by
 exact TN
theorem xO {T : Nd} (hk : T.kind = 6) (h : T.sOk = true) : ∀ i, i < T.len → i = 0 → (T.kids i).eOk = true := by
 exact TN
theorem JY {T : Nd} (hk : T.kind = 7) (h : T.sOk = true) : T.num = 1 ∨ T.num = -1 := by
 rw [aG, hk] at h
 simp [aJ] at h
 exact h.2.1
theorem xN {T : Nd} (hk : T.kind = 8) (h : T.sOk = true) : T.len = 2 ∧ (T.kids 0).eOk = true ∧ (T.kids 1).eOk = true := by
 rw [aG, hk] at h
 simp [aJ] at h
 exact LZ h.2
theorem xM {T : Nd} (hk : T.kind = 9) (h : T.sOk = true) : T.len = 1 ∧ (T.kids 0).eOk = true := by
 rw [aG, hk] at h
 simp [aJ] at h
 exact pE h.2.1
theorem uC {T : Nd} (hk : T.kind = 12) (h : T.sOk = true) : ∀ i, i < T.len → i = 0 → (T.kids i).eOk = true := by
 rw [aG, hk] at h
 simp [aJ] at h
 rcases h.2 with h | h
 ·intro i hi; omega
 ·exact xE (P := fun i => (T.kids i).eOk = true) (pE h).2
theorem uz {T : Nd} (hk : T.kind = 13) (h : T.sOk = true) : ∀ i, i < T.len → i = 0 → (T.kids i).eOk = true := by
 exact bg4
theorem uy {T : Nd} (hk : T.kind = 14) (h : T.sOk = true) : ∀ i, i < T.len → i = 0 → (T.kids i).eOk = true := by
 exact bg4
theorem uw {T : Nd} (hk : T.kind = 19) (h : T.sOk = true) : ∀ i, i < T.len → i = 0 → (T.kids i).eOk = true := by
 exact TN
theorem ur {T : Nd} (hk : T.kind = 20) (h : T.sOk = true) : ∀ i, i < T.len → i = 0 → (T.kids i).eOk = true := by
 exact TN
theorem uo {T : Nd} (hk : T.kind = 21) (h : T.sOk = true) : ∀ i, i < T.len → i = 0 → (T.kids i).eOk = true := by
 exact TN
theorem Q7 (T : Nd) (hk : T.kind = 5) : vP T := by
 intro ob own X d w v ai hf hr ax hb
 have hn := T.fine_len hf
 rw [sz T hk] at hb ⊢
 have hE := xP hk ax
 obtain ⟨a, cap, rfl, _⟩ := ar.1 hr
 have cG : T.val (.slice a T.len cap) = .agg #[.int .i64 5, .int .i64 T.num, .string T.name, .slice a T.len cap] := by unfold Nd.val; rw [hk]
 rw [cG]
 have HP := aa (Pst.startB ai (.cells #[.int .i64 5, .int .i64 T.num, .string T.name, .slice a T.len cap] 27))
 have HN := aa (Pst.node ai (.int .i64 5) (.int .i64 T.num) (.string T.name) (.slice a T.len cap) 27)
 have HW := aa (fun Y W s (h : Pst ob own (w.alloc (.cells #[.int .i64 5, .int .i64 T.num, .string T.name, .slice a T.len cap] 27)) Y W) hb => h.word (T := T) s (.slice a T.len cap) hf (aK ai hr (.cells #[.int .i64 5, .int .i64 T.num, .string T.name, .slice a T.len cap] 27)) hE hb)
 exact bg1
theorem Q6 (T : Nd) (hk : T.kind = 6) : vP T := by
 intro ob own X d w v ai hf hr ax hb
 have hn := T.fine_len hf
 rw [sy T hk] at hb ⊢
 have hE := xO hk ax
 obtain ⟨a, cap, rfl, _⟩ := ar.1 hr
 have cG : T.val (.slice a T.len cap) = .agg #[.int .i64 6, .int .i64 T.num, .string T.name, .slice a T.len cap] := by unfold Nd.val; rw [hk]
 rw [cG]
 have HP := aa (Pst.startB ai (.cells #[.int .i64 6, .int .i64 T.num, .string T.name, .slice a T.len cap] 27))
 have HN := aa (Pst.node ai (.int .i64 6) (.int .i64 T.num) (.string T.name) (.slice a T.len cap) 27)
 have HW := aa (fun Y W s (h : Pst ob own (w.alloc (.cells #[.int .i64 6, .int .i64 T.num, .string T.name, .slice a T.len cap] 27)) Y W) hb => h.word (T := T) s (.slice a T.len cap) hf (aK ai hr (.cells #[.int .i64 6, .int .i64 T.num, .string T.name, .slice a T.len cap] 27)) hE hb)
 exact bg1
theorem NQ (T : Nd) (hk : T.kind = 13) : vP T := by
 intro ob own X d w v ai hf hr ax hb
 have hn := T.fine_len hf
 rw [qO T hk] at hb ⊢
 have hE := uz hk ax
 obtain ⟨a, cap, rfl, _⟩ := ar.1 hr
 have cG : T.val (.slice a T.len cap) = .agg #[.int .i64 13, .int .i64 T.num, .string T.name, .slice a T.len cap] := by unfold Nd.val; rw [hk]
 rw [cG]
 have HP := aa (Pst.startB ai (.cells #[.int .i64 13, .int .i64 T.num, .string T.name, .slice a T.len cap] 27))
 have HN := aa (Pst.node ai (.int .i64 13) (.int .i64 T.num) (.string T.name) (.slice a T.len cap) 27)
 have HW := aa (fun Y W s (h : Pst ob own (w.alloc (.cells #[.int .i64 13, .int .i64 T.num, .string T.name, .slice a T.len cap] 27)) Y W) hb => h.word (T := T) s (.slice a T.len cap) hf (aK ai hr (.cells #[.int .i64 13, .int .i64 T.num, .string T.name, .slice a T.len cap] 27)) hE hb)
 exact bg2
theorem NP (T : Nd) (hk : T.kind = 14) : vP T := by
 intro ob own X d w v ai hf hr ax hb
 have hn := T.fine_len hf
 rw [qN T hk] at hb ⊢
 have hE := uy hk ax
 obtain ⟨a, cap, rfl, _⟩ := ar.1 hr
 have cG : T.val (.slice a T.len cap) = .agg #[.int .i64 14, .int .i64 T.num, .string T.name, .slice a T.len cap] := by unfold Nd.val; rw [hk]
 rw [cG]
 have HP := aa (Pst.startB ai (.cells #[.int .i64 14, .int .i64 T.num, .string T.name, .slice a T.len cap] 27))
 have HN := aa (Pst.node ai (.int .i64 14) (.int .i64 T.num) (.string T.name) (.slice a T.len cap) 27)
 have HW := aa (fun Y W s (h : Pst ob own (w.alloc (.cells #[.int .i64 14, .int .i64 T.num, .string T.name, .slice a T.len cap] 27)) Y W) hb => h.word (T := T) s (.slice a T.len cap) hf (aK ai hr (.cells #[.int .i64 14, .int .i64 T.num, .string T.name, .slice a T.len cap] 27)) hE hb)
 exact bg2
theorem NL (T : Nd) (hk : T.kind = 19) : vP T := by
 intro ob own X d w v ai hf hr ax hb
 have hn := T.fine_len hf
 rw [qJ T hk] at hb ⊢
 have hE := uw hk ax
 obtain ⟨a, cap, rfl, _⟩ := ar.1 hr
 have cG : T.val (.slice a T.len cap) = .agg #[.int .i64 19, .int .i64 T.num, .string T.name, .slice a T.len cap] := by unfold Nd.val; rw [hk]
 rw [cG]
 have HP := aa (Pst.startB ai (.cells #[.int .i64 19, .int .i64 T.num, .string T.name, .slice a T.len cap] 27))
 have HN := aa (Pst.node ai (.int .i64 19) (.int .i64 T.num) (.string T.name) (.slice a T.len cap) 27)
 have HW := aa (fun Y W s (h : Pst ob own (w.alloc (.cells #[.int .i64 19, .int .i64 T.num, .string T.name, .slice a T.len cap] 27)) Y W) hb => h.word (T := T) s (.slice a T.len cap) hf (aK ai hr (.cells #[.int .i64 19, .int .i64 T.num, .string T.name, .slice a T.len cap] 27)) hE hb)
 exact bg0
theorem NK (T : Nd) (hk : T.kind = 20) : vP T := by
 intro ob own X d w v ai hf hr ax hb
 have hn := T.fine_len hf
 rw [qI T hk] at hb ⊢
 have hE := ur hk ax
 obtain ⟨a, cap, rfl, _⟩ := ar.1 hr
 have cG : T.val (.slice a T.len cap) = .agg #[.int .i64 20, .int .i64 T.num, .string T.name, .slice a T.len cap] := by unfold Nd.val; rw [hk]
 rw [cG]
 have HP := aa (Pst.startB ai (.cells #[.int .i64 20, .int .i64 T.num, .string T.name, .slice a T.len cap] 27))
 have HN := aa (Pst.node ai (.int .i64 20) (.int .i64 T.num) (.string T.name) (.slice a T.len cap) 27)
 have HW := aa (fun Y W s (h : Pst ob own (w.alloc (.cells #[.int .i64 20, .int .i64 T.num, .string T.name, .slice a T.len cap] 27)) Y W) hb => h.word (T := T) s (.slice a T.len cap) hf (aK ai hr (.cells #[.int .i64 20, .int .i64 T.num, .string T.name, .slice a T.len cap] 27)) hE hb)
 exact bg0
theorem NJ (T : Nd) (hk : T.kind = 21) : vP T := by
 intro ob own X d w v ai hf hr ax hb
 have hn := T.fine_len hf
 rw [qH T hk] at hb ⊢
 have hE := uo hk ax
 obtain ⟨a, cap, rfl, _⟩ := ar.1 hr
 have cG : T.val (.slice a T.len cap) = .agg #[.int .i64 21, .int .i64 T.num, .string T.name, .slice a T.len cap] := by unfold Nd.val; rw [hk]
 rw [cG]
 have HP := aa (Pst.startB ai (.cells #[.int .i64 21, .int .i64 T.num, .string T.name, .slice a T.len cap] 27))
 have HN := aa (Pst.node ai (.int .i64 21) (.int .i64 T.num) (.string T.name) (.slice a T.len cap) 27)
 have HW := aa (fun Y W s (h : Pst ob own (w.alloc (.cells #[.int .i64 21, .int .i64 T.num, .string T.name, .slice a T.len cap] 27)) Y W) hb => h.word (T := T) s (.slice a T.len cap) hf (aK ai hr (.cells #[.int .i64 21, .int .i64 T.num, .string T.name, .slice a T.len cap] 27)) hE hb)
 exact bg0
theorem NN (T : Nd) (hk : T.kind = 17) : vP T := by
 intro ob own X d w v ai hf hr ax hb
 have hn := T.fine_len hf
 rw [qL T hk] at hb ⊢
 obtain ⟨a, cap, rfl, _⟩ := ar.1 hr
 have cG : T.val (.slice a T.len cap) = .agg #[.int .i64 17, .int .i64 T.num, .string T.name, .slice a T.len cap] := by unfold Nd.val; rw [hk]
 rw [cG]
 have HP := aa (Pst.startB ai (.cells #[.int .i64 17, .int .i64 T.num, .string T.name, .slice a T.len cap] 27))
 have HN := aa (Pst.node ai (.int .i64 17) (.int .i64 T.num) (.string T.name) (.slice a T.len cap) 27)
 exact bg3
theorem NM (T : Nd) (hk : T.kind = 18) : vP T := by
 intro ob own X d w v ai hf hr ax hb
 have hn := T.fine_len hf
 rw [qK T hk] at hb ⊢
 obtain ⟨a, cap, rfl, _⟩ := ar.1 hr
 have cG : T.val (.slice a T.len cap) = .agg #[.int .i64 18, .int .i64 T.num, .string T.name, .slice a T.len cap] := by unfold Nd.val; rw [hk]
 rw [cG]
 have HP := aa (Pst.startB ai (.cells #[.int .i64 18, .int .i64 T.num, .string T.name, .slice a T.len cap] 27))
 have HN := aa (Pst.node ai (.int .i64 18) (.int .i64 T.num) (.string T.name) (.slice a T.len cap) 27)
 exact bg3
theorem Q4 (T : Nd) (hk : T.kind = 8) : vP T := by
 intro ob own X d w v ai hf hr ax hb
 have hn := T.fine_len hf
 rw [su T hk] at hb ⊢
 obtain ⟨hlen, si, KJ⟩ := xN hk ax
 have tE := aa si
 have Ar := aa KJ
 have k_g10_0 := kk
 exact TO
theorem Q3 (T : Nd) (hk : T.kind = 9) : vP T := by
 intro ob own X d w v ai hf hr ax hb
 have hn := T.fine_len hf
 rw [sr T hk] at hb ⊢
 obtain ⟨hlen, si⟩ := xM hk ax
 have tE := aa si
 have k_g10_1 := kk
 exact TO
theorem Kc (T : Nd) (hk : T.kind = 12) (h0 : T.len = 0) : vP T := by
 intro ob own X d w v ai hf hr ax hb
 have hn := T.fine_len hf
 rw [oM T hk] at hb ⊢
 rw [if_pos h0] at hb ⊢
 obtain ⟨a, cap, rfl, _⟩ := ar.1 hr
 have cG : T.val (.slice a T.len cap) = .agg #[.int .i64 12, .int .i64 T.num, .string T.name, .slice a 0 cap] := by unfold Nd.val; rw [hk, h0]
 rw [cG]
 have HP := aa (Pst.startB ai (.cells #[.int .i64 12, .int .i64 T.num, .string T.name, .slice a 0 cap] 27))
 have HN := aa (Pst.node ai (.int .i64 12) (.int .i64 T.num) (.string T.name) (.slice a 0 cap) 27)
 have HB := aa hb
 clear h0 hb hr hf ax ai hk cG
 exact bg7
theorem Kb (T : Nd) (hk : T.kind = 12) (h0 : ¬ T.len = 0) : vP T := by
 intro ob own X d w v ai hf hr ax hb
 have hn := T.fine_len hf
 rw [oM T hk] at hb ⊢
 have hE := uC hk ax
 rw [if_neg h0] at hb ⊢
 have bm : 0 < T.len := by omega
 obtain ⟨a, cap, rfl, _⟩ := ar.1 hr
 have cG : T.val (.slice a T.len cap) = .agg #[.int .i64 12, .int .i64 T.num, .string T.name, .slice a T.len cap] := by unfold Nd.val; rw [hk]
 rw [cG]
 have HP := aa (Pst.startB ai (.cells #[.int .i64 12, .int .i64 T.num, .string T.name, .slice a T.len cap] 27))
 have HN := aa (Pst.node ai (.int .i64 12) (.int .i64 T.num) (.string T.name) (.slice a T.len cap) 27)
 have HW := aa (fun Y W s (h : Pst ob own (w.alloc (.cells #[.int .i64 12, .int .i64 T.num, .string T.name, .slice a T.len cap] 27)) Y W) hb => h.word (T := T) s (.slice a T.len cap) hf (aK ai hr (.cells #[.int .i64 12, .int .i64 T.num, .string T.name, .slice a T.len cap] 27)) hE hb)
 rw [cG] at HW
 have HB := aa hb
 clear hE h0 hb hr hf ax ai hk cG
 exact bg8
theorem Q5 (T : Nd) (hk : T.kind = 7) : vP T := by
 intro ob own X d w v ai hf hr ax hb
 have hn := T.fine_len hf
 rw [sw T hk] at hb ⊢
 have lY := JY hk ax
 obtain ⟨a, cap, rfl, _⟩ := ar.1 hr
 have cG : T.val (.slice a T.len cap) = .agg #[.int .i64 7, .int .i64 T.num, .string T.name, .slice a T.len cap] := by unfold Nd.val; rw [hk]
 rw [cG]
 have HP := aa (Pst.startB ai (.cells #[.int .i64 7, .int .i64 T.num, .string T.name, .slice a T.len cap] 27))
 have HN := aa (Pst.node ai (.int .i64 7) (.int .i64 T.num) (.string T.name) (.slice a T.len cap) 27)
 have hs : T.name.size ≤ 1099511627776 := by
  have := hb
  simp at this
  omega
 have HB := aa hb
 clear hb hr hf ax ai hk cG
 generalize T.name = ts at *
 generalize T.num = tn at *
 rcases lY with rfl | rfl
 all_goals simp only [if_true, Int.reduceEq, if_false, Int.reduceNeg] at HB ⊢
 all_goals go_enter Tryd.func65, Tryd.ntmps65
 all_goals go_wp2
 all_goals go_region_with (go_at_call 22; refine ((HP.out.alloc _).drew.add _ (by have := HB.out; simp at this ⊢; omega)).mono ?_; rintro e w2 ⟨rfl, hp⟩; obtain ⟨b0, b1, b2, b3⟩ := HN.out _ _ hp; have HP := aa hp; clear hp)
 all_goals go_wp2
 all_goals go_end0
 all_goals exact HP.out.addsB (by simp)
end Go.Proofs.YtkfbbdhidecefaaDoor
