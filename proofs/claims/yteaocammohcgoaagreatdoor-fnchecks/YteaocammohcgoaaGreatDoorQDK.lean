import Derived.Test.YteaocammohcgoaaGreatDoorQKhB
import Derived.Test.YteaocammohcgoaaGreatDoorQDA
import Derived.Test.YteaocammohcgoaaGreatDoorShelf
set_option linter.unusedVariables false
set_option maxHeartbeats 16000000
set_option maxRecDepth 100000
namespace Go.Proofs.YteaocammohcgoaaGreatDoor
open Go.RowKit
variable {G : Prop}
theorem bo0 (h : G := by
 obtain ⟨Lq, Ln, rfl⟩ : ∃ Lq Ln, v' = .slice Lq ((bX T j).length + 1) Ln := by
  rcases Jk.out.2 with ⟨rfl, h⟩ | ⟨g, cp, cur, rfl, _⟩
  ·omega
  ·exact ⟨_, _, rfl⟩
 have hnl : (bX T (j + 1)).length = (bX T j).length + 1 := by rw [Fl.out]; simp
 refine ⟨⟨j + 1, Lq, Ln, by omega, by go_num, by rw [hnl], ?_, zx.out⟩, by simp [intOf]; omega⟩
 rw [hnl, Fl.out, List.map_append]
 exact Jk.out) : G := h
theorem bo1 (h : G := by
 intro W h
 have e : ∀ o, W.cell? ⟨w.heap.size, o, none⟩ = (w.alloc (nO T (.slice a T.len cap))).cell? ⟨w.heap.size, o, none⟩ := fun o => h.cell (p := ⟨w.heap.size, o, none⟩) (by show w.heap.size < w.heap.size + 1; omega)
 rw [e, e, e, e]; refine ⟨?_, ?_, ?_, ?_⟩ <;> simp [go_sem]) : G := h
theorem bo2 (h : G := by
 have hki : (k : Int) < (xs.length : Int) := by omega
 have HBD := aa eJ.drew
 go_wp2
 go_region
 all_goals go_wp2
 all_goals exact ⟨⟨k + 1, by omega, by go_num, by first | exact eJ | exact HBD.out⟩, by simp [intOf]; omega⟩) : G := h
theorem bo3 (h : G := by
 go_wp2
 go_loop [5] (fun i => i = .int .i64 0) (fun _ => 0)
 case atStart => rfl
 case round =>
  subst hrel
  go_wp2
  go_ret
  exact ⟨rfl, Below.refl _ _⟩) : G := h
theorem bo4 (h : G := by
 obtain ⟨a, cap, rfl, b7, _⟩ := ar.1 hr
 have hn := T.fine_len hf
 have RG := T.cost_eq
 have FH : ∀ j, j < T.len → (T.kids j).cost ≤ 1048576 := fun j hj => Nat.le_trans (T.cost_kid hj) hc
 have hlen : T.len ≤ 1048576 := by omega
 have dY := aa (bO w (nO T (.slice a T.len cap)))
 have F0 : Hid (∀ W, Below (w.heap.size + 1) (w.alloc (nO T (.slice a T.len cap))) W → W.cell? ⟨w.heap.size, 0, none⟩ = some (.int .i64 T.kind) ∧ W.cell? ⟨w.heap.size, 1, none⟩ = some (.int .i64 T.num) ∧ W.cell? ⟨w.heap.size, 2, none⟩ = some (.string T.name) ∧ W.cell? ⟨w.heap.size, 3, none⟩ = some (.slice a T.len cap)) := by
  exact bo1
 first
 |clear k_o4_0
  have SC := aa (fun W (hW : Below w.heap.size w W) => vX T W (.slice a T.len cap) hi hf (by have := hW.size; omega) (ah hW cY hr) hc)
  have HQ := aa (fun h0 => cN hr h0)
  have HK := aa FH
  obtain ⟨i0, ke, nn, eZ, ec⟩ := info_parts JZ
  clear hf hr RG FH
  unfold Nd.val at *
  by_cases h0 : cK T = 0
  ·have hX : fR T = bX T T.len := by unfold fR; rw [if_pos h0]
   rw [hX, h0]
   rw [h0] at SC
   generalize cQ T = pp at *
   clear hX h0
   go_enter Tryz.func10, Tryz.ntmps10
   go_wp2_with (go_at_call 15; refine (SC.out _ dY.out).mono ?_; rintro e w2 ⟨rfl, hb2⟩; have fI := aa (hb2.mono (show w.heap.size + 1 ≤ _ by simp)); have QE : w.heap.size + 1 ≤ w2.heap.size := (by have := hb2.size; simpa using this); clear hb2 SC)
   go_loopw [6, 7] (fun out i wr => ∃ (j : Nat) (sa : Option Addr) (sc : Nat), j ≤ T.len ∧ i = .int .i64 j ∧ out = .slice sa (bX T j).length sc ∧ wr.ownsRow (w.heap.size + 1) 9 1 (.slice sa (bX T j).length sc) (bX T j).length ((bX T j).map Value.string) ∧ Below (w.heap.size + 1) (w.alloc (nO T (.slice a T.len cap))) wr) (fun _ i _ => T.len - (intOf i).toNat)
   case atStart =>
    refine ⟨0, _, _, by omega, rfl, rfl, ?_, ?_⟩
    ·have hh := World.ownsRow_made (base := w.heap.size + 1) (e := 9) (size := 1) w2 #[] 0 QE (by unfold maxLen; omega) (by simp)
     simpa [bX] using hh
    ·exact fI.out.alloc (by omega) _
   case round =>
    obtain ⟨j, sa, sc, hj, rfl, rfl, cg, hb⟩ := hrel
    obtain ⟨k0, k1, k2, k3⟩ := F0.out _ hb
    have fC : w.heap.size + 1 ≤ wr.heap.size := by have := hb.size; simpa using this
    have rO := kX T j
    have oq := aa cg
    have HB := aa hb
    clear cg hb k0 k1 k2
    by_cases bB : j < T.len
    ·have k_o7_0 := kk
     exact bo7
    ·go_wp2
     obtain rfl : j = T.len := by omega
     refine bodyPost_ret (v := .tuple #[.slice sa (bX T T.len).length sc, .int .i64 0]) (by simp [results, Tryz.results10, go_sem]) rfl ⟨_, rfl, kV oq.out (Nat.le_succ _), dY.out.trans (HB.out.mono (Nat.le_succ _))⟩
  ·have hX : fR T = [] := by unfold fR; rw [if_neg h0]
   rw [hX]
   generalize cK T = cc at *
   generalize cQ T = pp at *
   have Ea : (cc != 0) = true := by simpa using h0
   clear hX
   go_enter Tryz.func10, Tryz.ntmps10
   go_wp2_with (go_at_call 15; refine (SC.out _ dY.out).mono ?_; rintro e w2 ⟨rfl, hb2⟩; have fI := aa (dY.out.trans (hb2.mono (by simp))); clear hb2)
   refine bodyPost_ret (v := .tuple #[.slice (some ⟨w2.heap.size, 0, none⟩) 0 0, .int .i64 cc]) (by simp [results, Tryz.results10, go_sem]) rfl ⟨_, rfl, ⟨rfl, .inr ⟨w2.heap.size, 0, #[], rfl, fI.out.size, heap_alloc_new w2 _, Nat.le_refl _, Nat.zero_le _, rfl, rfl⟩⟩, fI.out.alloc fI.out.size _⟩
 |clear k_o4_1
  have CK := aa (fun W (hW : Below w.heap.size w W) => nk T W (.slice a T.len cap) hf (bl (ah hW lr hr) lr hW.size) hc (ez ht hW) (hg.later hW))
  have HQ := aa (fun h0 => cN hr h0)
  have HK := aa FH
  obtain ⟨i0, ke, nn, eZ, ec⟩ := info_parts JZ
  clear hf hr RG FH ht hg
  unfold Nd.val at *
  by_cases h0 : cK T = 0
  ·have hX : fR T = bX T T.len := by unfold fR; rw [if_pos h0]
   have HTR := aa (qk h0)
   rw [hX, h0]
   rw [h0] at CK
   generalize cQ T = pp at *
   generalize di T = xs at *
   clear hX h0
   go_enter Tryz.func9, Tryz.ntmps9
   go_wp2_with (go_at_call 20; refine (CK.out _ dY.out).mono ?_; rintro e w2 ⟨tv, rfl, cg, hb2⟩; obtain ⟨ta, tc, rfl, _, _⟩ := dN cg; have fI := aa ((hb2.mono (show w.heap.size + 1 ≤ _ by simp)).alloc (show w.heap.size + 1 ≤ w2.heap.size by have := hb2.size; simpa using this) (.cells #[.int .i64 0, .int .i64 pp] 44)); have QE : w.heap.size + 1 ≤ w2.heap.size := (by have := hb2.size; simpa using this); obtain ⟨_, _, _, k3⟩ := F0.out _ fI.out; clear hb2 CK cg)
   go_loopw [6, 22] (fun out i wr => ∃ (j : Nat) (sa : Option Addr) (sc : Nat), j ≤ T.len ∧ i = .int .i64 j ∧ out = .slice sa (bX T j).length sc ∧ wr.ownsRow (w.heap.size + 1) 9 1 (.slice sa (bX T j).length sc) (bX T j).length ((bX T j).map Value.string) ∧ Below (w.heap.size + 1) (w.alloc (nO T (.slice a T.len cap))) wr) (fun _ i _ => T.len - (intOf i).toNat)
   case atStart => exact ⟨0, _, _, by omega, rfl, rfl, ⟨rfl, .inl ⟨rfl, rfl⟩⟩, fI.out⟩
   case round =>
    obtain ⟨j, sa, sc, hj, rfl, rfl, cg, hb⟩ := hrel
    have fC : w.heap.size + 1 ≤ wr.heap.size := by have := hb.size; simpa using this
    have rO := kX T j
    have oq := aa cg
    have HB := aa hb
    clear cg hb k3
    by_cases bB : j < T.len
    ·have k_o7_1 := kk
     exact bo7
    ·go_wp2
     obtain rfl : j = T.len := by omega
     refine bodyPost_ret (v := .tuple #[.slice sa (bX T T.len).length sc, .int .i64 0]) (by simp [results, Tryz.results9, go_sem]) rfl ⟨_, rfl, kV oq.out (Nat.le_succ _), dY.out.trans (HB.out.mono (Nat.le_succ _))⟩
  ·have hX : fR T = [] := by unfold fR; rw [if_neg h0]
   rw [hX]
   generalize cK T = cc at *
   generalize cQ T = pp at *
   generalize di T = xs at *
   have Ea : (cc != 0) = true := by simpa using h0
   clear hX
   go_enter Tryz.func9, Tryz.ntmps9
   go_wp2_with (go_at_call 20; refine (CK.out _ dY.out).mono ?_; rintro e w2 ⟨tv, rfl, cg, hb2⟩; obtain ⟨ta, tc, rfl, _, _⟩ := dN cg; have fI := aa (dY.out.trans (hb2.mono (by simp))); clear hb2 cg CK)
   go_region
   all_goals go_wp2
   all_goals refine bodyPost_ret (v := .tuple #[.slice none 0 0, .int .i64 cc]) (by simp [results, Tryz.results9, go_sem]) rfl ⟨_, rfl, ⟨rfl, .inl ⟨rfl, rfl⟩⟩, (fI.out.alloc fI.out.size _).drew⟩) : G := h
theorem bo5 (h : G := by
 have HTB : Hid ((tW (T.kids j).name && (decide ((T.kids j).num = 0) && decide ((T.kids j).len = 1))) = tJ (T.kids j)) := rfl
 rw [HTB.out] at HT
 have uL : bX T (j + 1) = bX T j ++ (if tJ (T.kids j) then [(T.kids j).name] else []) := rfl
 first
 |clear k_o5_0
  have jz : Tryz.prog.follows Departure.mixedOrders = true := by kernel_rfl
  clear aQ bV hru BH HTB
  cases wV : tJ (T.kids j)
  ·rw [wV] at HT
   have Fl : Hid (bX T (j + 1) = bX T j) := by unfold Hid; rw [uL, wV]; simp
   clear uL wV
   go_wp2_with (go_at_call 24; refine (HT.out _).mono ?_; rintro e w3 ⟨rfl, hb3⟩; have ou := aa hb3; clear hb3)
   refine ⟨⟨j + 1, sa, sc, by omega, by go_num, by rw [Fl.out], ?_, ?_⟩, by simp [intOf]; omega⟩
   ·rw [Fl.out]; exact cW oq.out ou.out
   ·exact HB.out.trans (ou.out.mono fC)
  ·rw [wV] at HT
   have Fl : Hid (bX T (j + 1) = bX T j ++ [(T.kids j).name]) := by unfold Hid; rw [uL, wV]; simp
   clear uL wV
   go_wp2_with (first
    |(go_at_call 24; refine (HT.out _).mono ?_; rintro e w3 ⟨rfl, hb3⟩; have ou := aa (HB.out.trans (hb3.mono fC)); have zu := aa (cW oq.out hb3); obtain ⟨_, _, _, k3⟩ := F0.out _ ou.out; obtain ⟨e0, e1, e2, e3⟩ := HC.out _ (dY.out.trans (ou.out.mono (Nat.le_succ _))); have vB := hb3.size; clear hb3 oq)
    |(at_builtin; refine wpList_append_own _ rfl _ _ 32 rfl (w.heap.size + 1) 9 i0 (.string ⟨#[]⟩) 1 16 Tryz.underlying32 ke nn eZ ec rfl (by decide) _ (bX T j).length _ rfl (zu.out.alloc _) ⟨w3.heap.size, 0, none⟩ 1 1 [.string (T.kids j).name] rfl rfl (by intro i u hu; rcases i with _ | i <;> simp_all [Addr.add]) (by intro u hu; simp at hu; subst hu; rfl) (by unfold maxLen; omega) (by omega) (by simp; omega) ?_; intro v' w4 ix aX pS; have zx := aa ((ou.out.alloc (by omega) _).grown aX (by simp; omega) (fun k hk => ((zu.out.alloc (.cells #[.string (T.kids j).name] 9)).lt k hk).1)); have Jk := aa ix; clear ix aX pS))
   exact bo0
 |clear k_o5_1
  have Jv := aa (fun W => wQ (T.kids j).name W (by omega))
  have HN := aa (fun W (h : Below wr.heap.size (wr.alloc (.cells #[.int .i64 (T.kids j).kind, .int .i64 (T.kids j).num, .string (T.kids j).name, .slice (some ⟨ug, uo, none⟩) (T.kids j).len uc] 25)) W) => HB.out.trans (((bO wr _).trans h).mono fC))
  clear aQ bV hru BH HTB hm huc
  cases wV : tJ (T.kids j)
  ·rw [wV] at HT
   have Fl : Hid (bX T (j + 1) = bX T j) := by unfold Hid; rw [uL, wV]; simp
   clear uL wV
   go_wp2_with (go_at_call 22; refine (HT.out _).mono ?_; rintro e w3 ⟨rfl, hb3⟩; have ou := aa hb3; clear hb3)
   refine ⟨⟨j + 1, sa, sc, by omega, by go_num, by rw [Fl.out], ?_, ?_⟩, by simp [intOf]; omega⟩
   ·rw [Fl.out]; exact cW (oq.out.alloc _) ou.out
   ·exact HN.out _ (ou.out.mono (by simp))
  ·rw [wV] at HT
   have Fl : Hid (bX T (j + 1) = bX T j ++ [(T.kids j).name]) := by unfold Hid; rw [uL, wV]; simp
   clear uL wV
   go_wp2_with (first
    |(go_at_call 22; refine (HT.out _).mono ?_; rintro e w3 ⟨rfl, hb3⟩; have ou := aa (HN.out _ (hb3.mono (by simp))); have zu := aa (cW (oq.out.alloc _) hb3); have vB := hb3.size; have q2 : w3.cell? ⟨wr.heap.size, 2, none⟩ = some (.string (T.kids j).name) := (by rw [hb3.cell (p := ⟨wr.heap.size, 2, none⟩) (by simp)]; simp [go_sem]); clear hb3 oq)
    |(go_at_call 23; refine (Jv.out _).mono ?_; rintro e w5 ⟨rfl, oT⟩; have HB5 := aa (ou.out.trans (oT.mono (by simp at vB; omega))); have VR := aa (cW zu.out oT); have Oq := oT.size; clear oT zu)
    |(at_builtin; refine wpList_append_own _ rfl _ _ 32 rfl (w.heap.size + 1) 9 i0 (.string ⟨#[]⟩) 1 16 Tryz.underlying32 ke nn eZ ec rfl (by decide) _ (bX T j).length _ rfl (VR.out.alloc _) ⟨w5.heap.size, 0, none⟩ 1 1 [.string (T.kids j).name] rfl rfl (by intro i u hu; rcases i with _ | i <;> simp_all [Addr.add]) (by intro u hu; simp at hu; subst hu; rfl) (by unfold maxLen; omega) (by omega) (by simp at vB ⊢; omega) ?_; intro v' w4 ix aX pS; have zx := aa ((HB5.out.alloc (by simp at vB; omega) _).grown aX (by simp at vB ⊢; omega) (fun k hk => ((VR.out.alloc (.cells #[.string (T.kids j).name] 9)).lt k hk).1)); have Jk := aa ix; clear ix aX pS))
   exact bo0) : G := h
theorem bo6 (h : G := by
 go_wp2
 go_loopw [5] (fun i wr => ∃ k : Nat, k ≤ xs.length ∧ i = .int .i64 k ∧ Below w.heap.size w wr) (fun i _ => xs.length - (intOf i).toNat)
 case atStart => exact ⟨0, by omega, rfl, Below.refl _ _⟩
 first
 |clear k_o6_0
  case round =>
   obtain ⟨k, hk, rfl, eJ⟩ := hrel
   by_cases bB : k < xs.length
   ·have a0 := sH (cW HA.out eJ) k bB
    have b0 := sH (cW HB.out eJ) k bB
    generalize xs[k] = tk at *
    have hbb : (tk != tk) = false := by simp
    exact bo2
   ·go_wp2
    go_ret
    exact ⟨rfl, eJ⟩
 |clear k_o6_1
  case round =>
   obtain ⟨k, hk, rfl, eJ⟩ := hrel
   by_cases bB : k < xs.length
   ·have a0 := sH (cW HA.out eJ) k bB
    have b0 := sH (cW HB.out eJ) k bB
    generalize xs[k] = tk at *
    have hbs : (tk.toList != tk.toList) = false := by simp
    exact bo2
   ·go_wp2
    go_ret
    exact ⟨rfl, eJ⟩) : G := h
theorem bo7 (h : G := by
 have Ib : (j : Int) < (T.len : Int) := by omega
 obtain ⟨g, off, l5, hv, hg, MD, aQ⟩ := HQ.out (by omega)
 injection hv with ti _ th
 subst ti
 subst th
 obtain ⟨uv, bV, hru⟩ := aQ j bB
 first
 |clear k_o7_0
  obtain ⟨ua, uc, rfl⟩ := AB hru
  have hkc := HK.out j bB
  have BH := (T.kids j).cost_eq
  have HC := aa (fun W (h : Below w.heap.size w W) => bV W (h.mono cY))
  obtain ⟨e0, e1, e2, e3⟩ := HC.out _ (dY.out.trans (HB.out.mono (Nat.le_succ _)))
  have HT := aa (fun W => Av (T.kids j).kind (T.kids j).num (T.kids j).name ua (T.kids j).len uc W (by omega))
  have k_o5_0 := kk
  exact bo5
 |clear k_o7_1
  have Kl := s7 (jJ HTR.out bB)
  obtain ⟨m, hm⟩ : ∃ m, (T.kids j).len = m + 1 := ⟨(T.kids j).len - 1, by omega⟩
  obtain ⟨ug, uo, uc, rfl, _, huc, _⟩ := cN hru (by omega)
  have hkc := HK.out j bB
  have BH := (T.kids j).cost_eq
  have HC := aa (fun W (h : Below w.heap.size w W) => bV W h)
  obtain ⟨e0, e1, e2, e3⟩ := HC.out _ (dY.out.trans (HB.out.mono (Nat.le_succ _)))
  have HT := aa (fun W => AQ (T.kids j).kind (T.kids j).num (T.kids j).name ug uo m uc W (by omega) huc.2)
  rw [← hm] at HT
  have k_o5_1 := kk
  exact bo5) : G := h
def testW : ByteArray := ⟨#[84, 101, 115, 116]⟩
def tW (s : ByteArray) : Bool := Lib.hasPrefix s.data.toList testW.data.toList
def tJ (K : Nd) : Bool := tW K.name && (decide (K.num = 0) && decide (K.len = 1))
theorem Dc (s : ByteArray) : (decide (4 ≤ s.size) && ((s.extract 0 4).toList == [84, 101, 115, 116])) = tW s := by
 have h : testW.toList = [84, 101, 115, 116] := by rw [ByteArray.toList_eq]; rfl
 rw [← h]; exact Lib.hasPrefix_raw s testW
theorem nP {a b : Bool} (h : a = b) : Ending.returned (.bool a) = .returned (.bool b) := by rw [h]
theorem Av (k n : Int) (s : ByteArray) (a : Option Addr) (len cap : Nat) (w : World) (hs : s.size ≤ 1099511627776) :
  Calls Tryz.prog 24 #[.agg #[.int .i64 k, .int .i64 n, .string s, .slice a len cap]] w fun e w' => e = .returned (.bool (tW s && (decide (n = 0) && decide (len = 1)))) ∧ Below w.heap.size w w' := by
 have HB := aa (fun o : Obj => bO w o)
 have HP := aa (Dc s)
 generalize tW s = pb at *
 go_enter Tryz.func24, Tryz.ntmps24
 go_wp2
 all_goals go_ret
 all_goals refine ⟨nP ?_, HB.out _⟩
 all_goals rw [← HP.out]
 ·rename_i x1 x2 x3
  rw [Bool.eq_iff_iff]
  simp [x2, x3]
  omega
 ·rename_i x1 x2 x3; simp [x3]
 ·rename_i x1 x2; simp [x2]
 ·rename_i x1; have : ¬ 4 ≤ s.size := by omega
  simp [this]
theorem AQ (k n : Int) (s : ByteArray) (g off len cap : Nat) (w : World) (hl : len + 1 ≤ cap) (hc : cap ≤ 9223372036854775807) :
  Calls Tryz.prog 22 #[.agg #[.int .i64 k, .int .i64 n, .string s, .slice (some ⟨g, off, none⟩) (len + 1) cap]] w fun e w' => e = .returned (.bool (tW s && (decide (n = 0) && decide (len + 1 = 1)))) ∧ Below w.heap.size w w' := by
 have HB := aa (fun o : Obj => bO w o)
 have fI := aa (fun (o : Obj) (W : World) (h : Below w.heap.size w W) => h.alloc h.size o)
 have HPO := aa (fun W => pH k n s g off len cap W hl hc)
 have Pa := aa (fun W => Tryz.strings_HasPrefix s testW W)
 have HP : Hid (Lib.hasPrefix s.data.toList testW.data.toList = tW s) := rfl
 rw [HP.out] at Pa
 clear HP
 unfold testW at Pa
 have hll : ((len + 1 : Nat) : Int) = (len : Int) + 1 := by omega
 cases hp : tW s
 ·rw [hp] at Pa
  go_enter Tryz.func22, Tryz.ntmps22
  go_wp2_with (go_at_call 48; refine (Pa.out _).mono ?_; rintro e w1 ⟨rfl, rfl⟩)
  all_goals go_ret
  all_goals exact ⟨nP (by simp), HB.out _⟩
 ·rw [hp] at Pa
  go_enter Tryz.func22, Tryz.ntmps22
  go_wp2_with (first | (go_at_call 48; refine (Pa.out _).mono ?_; rintro e w1 ⟨rfl, rfl⟩) | (go_at_call 49; refine (HPO.out _).mono ?_; rintro e w2 ⟨rfl, rfl⟩))
  all_goals go_ret
  all_goals refine ⟨nP ?_, fI.out _ _ (HB.out _)⟩
  ·rename_i x; rw [Bool.eq_iff_iff]; simp [x]
  ·rename_i x; simp [x]
def bX (T : Nd) : Nat → List ByteArray
 |0 => []
 |n + 1 => bX T n ++ (if tJ (T.kids n) then [(T.kids n).name] else [])
theorem kX (T : Nd) (n : Nat) : (bX T n).length ≤ n := by
 induction n with
 |zero => exact Nat.le_refl _
 |succ n ih => simp only [bX, List.length_append]; split <;> simp <;> omega
def fR (T : Nd) : List ByteArray := if cK T = 0 then bX T T.len else []
theorem JZ : (Tryz.prog.info? 9).map (fun i => (i.zero, i.size, i.bytes)) = some (some (.string ⟨#[]⟩), 1, 16) := by kernel_rfl
theorem qk {T : Nd} (h : cK T = 0) : dh T = true := by
 unfold cK at h
 by_cases ht : dh T = true
 ·exact ht
 ·rw [if_neg ht] at h; omega
theorem zT (T : Nd) : (fR T).length ≤ 600 := by
 unfold fR
 split
 ·rename_i h
  have ht := qk h
  have pP : T.size ≤ 600 := by unfold dh at ht; simp only [Bool.and_eq_true, decide_eq_true_eq] at ht; exact ht.1.1.1.1
  have h1 := kX T T.len
  have h2 : T.len ≤ T.size := by
   rw [T.size_eq]
   have : T.len ≤ aw (fun i => (T.kids i).size) T.len := by
    generalize T.len = n
    induction n with
    |zero => exact Nat.zero_le _
    |succ n ih => simp only [aw]; have := (T.kids n).size_eq; omega
   omega
  omega
 ·simp
theorem vV (T : Nd) (w : World) (u : Value) (hi : Nat) (hf : T.Fine) (cY : hi ≤ w.heap.size) (hr : Row 0 hi w T u) (hc : T.cost ≤ 1048576) :
  Calls Tryz.prog 10 #[T.val u] w fun e w' => ∃ tv, e = .returned (.tuple #[tv, .int .i64 (cK T)]) ∧ w'.ownsRow w.heap.size 9 1 tv (fR T).length ((fR T).map Value.string) ∧ Below w.heap.size w w' := by
 have k_o4_0 := kk
 exact bo4
theorem wQ (s : ByteArray) (w : World) (hs : s.size ≤ 1099511627776) :
  Calls Tryz.prog 23 #[.string s] w fun e w' => e = .returned (.string s) ∧ Below w.heap.size w w' := by
 go_enter Tryz.func23, Tryz.ntmps23
 go_wp2_with (go_at_call 50; refine (Tryz.stringslite_Clone _ _ (by omega)).mono ?_; rintro e w' ⟨rfl, hb⟩)
 go_ret
 exact ⟨rfl, hb⟩
theorem wN (T : Nd) (w : World) (u : Value) (hf : T.Fine) (hr : Row 0 w.heap.size w T u) (hc : T.cost ≤ 1048576) (ht : oW w) (hg : ErrG w) :
  Calls Tryz.prog 9 #[T.val u] w fun e w' => ∃ tv, e = .returned (.tuple #[tv, .int .i64 (cK T)]) ∧ w'.ownsRow w.heap.size 9 1 tv (fR T).length ((fR T).map Value.string) ∧ Below w.heap.size w w' := by
 have k_o4_1 := kk
 exact bo4
def Nz {α : Type} (r : CR α) : Prop := ∀ e, r = .error e → e.1 ≠ 0
theorem Nz.ok {α : Type} (a : α) : Nz (.ok a : CR α) := fun e h => by cases h
theorem Nz.err {α : Type} {c : Int} {n : Nat} (h : c ≠ 0) : Nz (.error (c, n) : CR α) := fun e he => by cases he; exact h
theorem Nz.bind {α β : Type} {r : CR α} {f : α → CR β} (h : Nz r) (hf : ∀ a, Nz (f a)) : Nz (CR.bind r f) := by
 cases r with
 |error e => exact fun e' he => h e' (by cases he; rfl)
 |ok a => exact hf a
theorem Nz.forN {σ : Type} {f : Nat → σ → CR σ} (h : ∀ i s, Nz (f i s)) : ∀ n s, Nz (forN f n s)
 |0, s => Nz.ok s
 |n + 1, s => Nz.bind (Nz.forN h n s) (h n)
theorem Nz.ite {α : Type} {c : Prop} [Decidable c] {a b : CR α} (ha : Nz a) (hb : Nz b) : Nz (if c then a else b) := by by_cases h : c <;> simp only [h, if_true, if_false] <;> assumption
theorem ng {m : qE} (h : ∀ s, Nz (m s)) (s : CS) : Nz (cE m s) := Nz.bind (h s) fun r => Nz.ite (Nz.err (by decide)) (Nz.ok _)
theorem eu {m : qE} (h : ∀ s, Nz (m s)) (t : Int) (s : CS) : Nz (aC m t s) := Nz.bind (ng h s) fun r => Nz.ite (Nz.ok _) (Nz.err (by decide))
theorem Hf (F : Nd) (k : Int) (name : ByteArray) (len : Nat) (kids : Nat → qE) (h : ∀ i s, Nz (kids i s)) (s : CS) (a : Nat) : Nz (bC F k name len kids s a) := by
 unfold bC
 refine Nz.ite (Nz.ok _) (Nz.ite (Nz.ok _) (Nz.ite (Nz.ite (Nz.err (by decide)) (Nz.ok _)) (Nz.ite ?_ (Nz.ite (Nz.bind (Nz.forN (fun i => eu (h i) 1) _ _) fun _ => Nz.ok _) (Nz.ite (Nz.bind (eu (h 0) _ _) fun _ => Nz.ok _) (Nz.ite (Nz.bind (eu (h 0) _ _) fun _ => Nz.ok _) (Nz.ite (Nz.bind (ng (h 0) _) fun r => Nz.bind (eu (h 1) _ _) fun _ => Nz.ok _) (Nz.bind (eu (h 0) _ _) fun _ => Nz.bind (eu (h 1) _ _) fun _ => Nz.ok _))))))))
 cases findF F name with
 |none => exact Nz.err (by decide)
 |some j => exact Nz.ite (Nz.bind (Nz.forN (fun i => eu (h i) _) _ _) fun _ => Nz.ok _) (Nz.err (by decide))
theorem Di (F : Nd) : ∀ (T : Nd) (s : CS), Nz (bL F T s)
 |.nil, s => Nz.ok _
 |.mk k n name len kids, s => by
  show Nz (MS F k name len (fun i => bL F (kids i)) s)
  exact Nz.bind (Hf F k name len _ (fun i => Di F (kids i)) _ _) fun _ => Nz.ok _
theorem rE {l : List (ByteArray × Int)} {m : CS → CR CS} (h : ∀ s, Nz (m s)) (s : CS) : Nz (within l m s) := Nz.bind (h _) fun _ => Nz.ok _
theorem yA (len : Nat) (kids : Nat → KJ) (h : ∀ i cx s, Nz (kids i cx s)) (cx : Cx) (s : CS) : Nz (oC len kids cx s) := Nz.forN (fun i => h i cx) _ _
theorem Qa (F : Nd) (k : Int) (name : ByteArray) (len : Nat) (num : Nat → Int) (ex : Nat → qE) (kids : Nat → Mn) (he : ∀ i s, Nz (ex i s)) (h1 : ∀ i cx s, Nz ((kids i).st cx s)) (h3 : ∀ i b cx s, Nz ((kids i).cs b cx s)) (cx : Cx) (s : CS) : Nz (stM F k name len num ex kids cx s) := by
 unfold stM
 refine Nz.ite (rE (fun s => yA _ _ h1 _ _) _) (Nz.ite (Nz.bind (ng (he 0) _) fun _ => Nz.ite (Nz.err (by decide)) (Nz.ok _)) (Nz.ite (Nz.ite (Nz.err (by decide)) (eu (he 0) _ _)) (Nz.ite (Nz.ite (Nz.err (by decide)) (Nz.ite (Nz.ok _) (Nz.err (by decide)))) (Nz.ite (Nz.bind (eu (he 0) _ _) fun _ => eu (he 1) _ _) (Nz.ite (Nz.bind (he 0 _) fun _ => Nz.ok _) (Nz.ite (Nz.bind (eu (he 0) _ _) fun _ => Nz.forN (fun i => h1 (i + 1) cx) _ _) ?_))))))
 refine Nz.ite (Nz.bind (Nz.ite (eu (he 0) _ _) (Nz.ok _)) fun _ => h1 _ _ _) (Nz.ite (Nz.ite (Nz.ite (eu (he 0) _ _) (Nz.ok _)) (Nz.err (by decide))) (Nz.ite (Nz.forN (fun i => h3 i _ _) _ _) (Nz.ite (Nz.ite (Nz.err (by decide)) (Nz.ok _)) (Nz.ite (Nz.ite (Nz.err (by decide)) (Nz.ok _)) (Nz.ite (eu (he 0) _ _) (Nz.ite (Nz.bind (ng (he 0) _) fun _ => Nz.ite (Nz.err (by decide)) (Nz.ok _)) (Nz.ite (eu (he 0) _ _) (Nz.ok _))))))))
theorem Qb (n : Int) (name : ByteArray) (len : Nat) (ex : Nat → qE) (kids : Nat → Mn) (he : ∀ i s, Nz (ex i s)) (h2 : ∀ i cx s, Nz ((kids i).sts cx s)) (b : Bool) (cx : Cx) (s : CS) : Nz (FK n name len ex kids b cx s) := by
 unfold FK
 exact Nz.ite (Nz.err (by decide)) (Nz.bind (Nz.ite (eu (he 0) _ _) (Nz.ok _)) fun _ => Nz.bind (Nz.ite (eu (he 1) _ _) (Nz.ok _)) fun _ => rE (fun _ => h2 _ _ _) _)
theorem tZ (F : Nd) : ∀ (T : Nd), (∀ cx s, Nz ((bY F T).st cx s)) ∧ (∀ cx s, Nz ((bY F T).sts cx s)) ∧ (∀ b cx s, Nz ((bY F T).cs b cx s))
  | .nil => ⟨fun _ _ => Nz.ok _, fun _ _ => Nz.ok _, fun _ _ _ => Nz.ok _⟩
  | .mk k n name len kids =>
    ⟨fun cx s => Qa F k name len _ _ _ (fun i => Di F (kids i)) (fun i => (tZ F (kids i)).1) (fun i => (tZ F (kids i)).2.2) cx s,
     fun cx s => yA len _ (fun i => (tZ F (kids i)).1) cx s,
     fun b cx s => Qb n name len _ _ (fun i => Di F (kids i)) (fun i => (tZ F (kids i)).2.1) b cx s⟩
theorem Lv (F T : Nd) (X : List Int) : Nz (ja F T X) := by
 unfold ja
 exact Nz.bind (Nz.forN (fun i s => by unfold mD; exact Nz.ite (Nz.err (by decide)) (Nz.ok _)) _ _) fun _ => Nz.bind ((tZ F _).2.1 _ _) fun _ => Nz.ite (Nz.err (by decide)) (Nz.ok _)
theorem Dh (F : Nd) (i : Nat) (u : Unit) : Nz (dC F i u) := by unfold dC; exact Nz.ite (Nz.ok _) (Nz.err (by decide))
theorem Dj (T : Nd) : Nz (dp T) := Nz.bind (Nz.forN (Dh T) _ _) fun _ => Nz.forN (fun i => Lv T (T.kids i)) _ _
theorem Bo {T : Nd} (h : cK T = 0) : dh T = true ∧ cQ T = 0 ∧ (di T).length = T.size := by
 unfold cK at h
 by_cases ht : dh T = true
 ·rw [if_pos ht] at h
  cases hM : dp T with
  |error p => rw [hM] at h; exact absurd h (Dj T p hM)
  |ok X =>
   have hX : X.length = T.size := by
    have := te ht lr X hM
    rw [this, lO]; omega
   exact ⟨ht, by unfold cQ; rw [if_pos ht, hM], by unfold di; rw [if_pos ht, hM]; exact hX⟩
 ·rw [if_neg ht] at h; omega
def PRC : Prop := ∀ (sb A : Nat) (w : World), A ≤ 1000000000 → Src sb A w → Calls Tryz.prog 19 #[.pointer (some ⟨sb, 0, none⟩)] w fun e w' => ∃ T a c, e = .returned (T.val (.slice a T.len c)) ∧ Drawn sb (A + 7000000) (fun T => cK T = 0) 1000000 w T (.slice a T.len c) w'
structure Pgm (w : World) (T : Nd) (u : Value) (w' : World) : Prop where
 row : Row w.heap.size w'.heap.size w' T u
 fine : T.Fine
 code : cK T = 0
 cost : T.cost ≤ 1000000
 below : Below w.heap.size w w'
theorem tT (PR : PRC) (ca : Option Addr) (cn cc : Nat) (w : World) (dm : cn ≤ 1048576) (dO : Bytes w.heap.size w ca cn) :
  Calls Tryz.prog 5 #[.slice ca cn cc] w fun e w' => ∃ T a c, e = .returned (T.val (.slice a T.len c)) ∧ Pgm w T (.slice a T.len c) w' := by
 have dY := aa (bO w eF)
 have SA := aa (vY ca cn cc (w.alloc eF) dm (dO.wide dY.out))
 have HZ := aa (heap_alloc_new w eF)
 have PA := aa PR
 rw [World.size_alloc] at SA
 unfold eF at SA
 clear dO
 go_enter Tryz.func5, Tryz.ntmps5
 go_wp2_with fail
 refine SA.out.mono ?_
 rintro e w1 ⟨rfl, az, hb1, eZ⟩
 go_wp2_with fail
 refine (PA.out _ 0 _ (by omega) az).mono ?_
 rintro e w2 ⟨T, a, c, rfl, hd⟩
 have ec := hd.kp.size
 have gL : Hid (w2.heap[w.heap.size]? = some eF) := (hd.kp.block _ (by omega) (by omega)).trans ((hb1.block _ (by omega)).trans HZ.out)
 have fc : Hid (Below w.heap.size w w2) := by
  have Sl := dY.out.trans (hb1.mono (Nat.le_succ _))
  refine ⟨hd.kp.os.trans Sl.os, hd.kp.tape.trans Sl.tape, hd.kp.output.trans Sl.output, Nat.le_trans Sl.size hd.kp.size, fun k hk => (hd.kp.block k (by omega) (by omega)).trans (Sl.block k hk)⟩
 have HR := aa hd.row
 have HF := aa hd.fine
 have HC := aa hd.ok
 have HK := aa hd.cost
 obtain ⟨c0, c1, c2, c3, c4⟩ := po gL.out
 clear hd az hb1
 unfold Nd.val
 go_wp2
 refine bodyPost_ret (v := .agg #[.int .i64 T.kind, .int .i64 T.num, .string T.name, .slice a T.len c]) (wa gL.out Tryz.results5 rfl T.kind T.num T.name (.slice a T.len c)) rfl ⟨T, a, c, rfl, ?_, HF.out, HC.out, HK.out, we fc.out _ _ _ _⟩
 have hs := fV w2 w.heap.size T.kind T.num T.name (.slice a T.len c)
 exact bl (dk lr lr (fun g o h1 h2 => World.cell?_of_block (a := ⟨g, o, none⟩) (eV w2 w.heap.size T.kind T.num T.name (.slice a T.len c) g (by omega))) HR.out) (by omega) (Nat.le_of_eq hs.symm)
theorem AA (xs : List Int) (A B ga ca gb cb : Nat) (w : World) (hl : xs.length ≤ 1099511627776) (ha : w.ownsRow A 3 1 (.slice (some ⟨ga, 0, none⟩) xs.length ca) xs.length (xs.map (Value.int .i64))) (hb : w.ownsRow B 3 1 (.slice (some ⟨gb, 0, none⟩) xs.length cb) xs.length (xs.map (Value.int .i64))) :
  Calls Tryz.prog 11 #[.slice (some ⟨ga, 0, none⟩) xs.length ca, .slice (some ⟨gb, 0, none⟩) xs.length cb] w fun e w' => e = .returned (.bool true) ∧ Below w.heap.size w w' := by
 have HA := (show Hid (w.ownsRow _ _ _ _ _ _) from ha)
 have HB := (show Hid (w.ownsRow B _ _ _ _ _) from hb)
 clear ha hb
 go_enter Tryz.func11, Tryz.ntmps11
 have k_o6_0 := kk
 exact bo6
theorem gr (a b : Option Addr) (ca cb : Nat) (w : World) : Calls Tryz.prog 11 #[.slice a 0 ca, .slice b 0 cb] w fun e w' => e = .returned (.bool true) ∧ Below w.heap.size w w' := by
 go_enter Tryz.func11, Tryz.ntmps11
 exact bo3
theorem qT (xs : List Int) (A B : Nat) (va vb : Value) (w : World) (hl : xs.length ≤ 1099511627776) (ha : w.ownsRow A 3 1 va xs.length (xs.map (Value.int .i64))) (hb : w.ownsRow B 3 1 vb xs.length (xs.map (Value.int .i64))) :
  Calls Tryz.prog 11 #[va, vb] w fun e w' => e = .returned (.bool true) ∧ Below w.heap.size w w' := by
 by_cases h0 : xs.length = 0
 ·rcases jn ha with ⟨a, ca, rfl, _⟩ | ⟨g, ca, rfl⟩ <;> rcases jn hb with ⟨b, cb, rfl, _⟩ | ⟨g', cb, rfl⟩
  ·exact gr _ _ _ _ w
  ·rw [h0]; exact gr _ _ _ _ w
  ·rw [h0]; exact gr _ _ _ _ w
  ·rw [h0]; exact gr _ _ _ _ w
 ·rcases jn ha with ⟨_, _, _, h⟩ | ⟨g, ca, rfl⟩
  ·exact absurd h h0
  rcases jn hb with ⟨_, _, _, h⟩ | ⟨g', cb, rfl⟩
  ·exact absurd h h0
  exact AA xs A B g ca g' cb w hl ha hb
theorem Az (xs : List ByteArray) (A B ga ca gb cb : Nat) (w : World) (hl : xs.length ≤ 1099511627776) (ha : w.ownsRow A 9 1 (.slice (some ⟨ga, 0, none⟩) xs.length ca) xs.length (xs.map Value.string)) (hb : w.ownsRow B 9 1 (.slice (some ⟨gb, 0, none⟩) xs.length cb) xs.length (xs.map Value.string)) :
  Calls Tryz.prog 13 #[.slice (some ⟨ga, 0, none⟩) xs.length ca, .slice (some ⟨gb, 0, none⟩) xs.length cb] w fun e w' => e = .returned (.bool true) ∧ Below w.heap.size w w' := by
 have HA := (show Hid (w.ownsRow _ _ _ _ _ _) from ha)
 have HB := (show Hid (w.ownsRow B _ _ _ _ _) from hb)
 clear ha hb
 go_enter Tryz.func13, Tryz.ntmps13
 have k_o6_1 := kk
 exact bo6
theorem gn (a b : Option Addr) (ca cb : Nat) (w : World) : Calls Tryz.prog 13 #[.slice a 0 ca, .slice b 0 cb] w fun e w' => e = .returned (.bool true) ∧ Below w.heap.size w w' := by
 go_enter Tryz.func13, Tryz.ntmps13
 exact bo3
theorem qS (xs : List ByteArray) (A B : Nat) (va vb : Value) (w : World) (hl : xs.length ≤ 1099511627776) (ha : w.ownsRow A 9 1 va xs.length (xs.map Value.string)) (hb : w.ownsRow B 9 1 vb xs.length (xs.map Value.string)) :
  Calls Tryz.prog 13 #[va, vb] w fun e w' => e = .returned (.bool true) ∧ Below w.heap.size w w' := by
 by_cases h0 : xs.length = 0
 ·rcases jn ha with ⟨a, ca, rfl, _⟩ | ⟨g, ca, rfl⟩ <;> rcases jn hb with ⟨b, cb, rfl, _⟩ | ⟨g', cb, rfl⟩
  ·exact gn _ _ _ _ w
  ·rw [h0]; exact gn _ _ _ _ w
  ·rw [h0]; exact gn _ _ _ _ w
  ·rw [h0]; exact gn _ _ _ _ w
 ·rcases jn ha with ⟨_, _, _, h⟩ | ⟨g, ca, rfl⟩
  ·exact absurd h h0
  rcases jn hb with ⟨_, _, _, h⟩ | ⟨g', cb, rfl⟩
  ·exact absurd h h0
  exact Az xs A B g ca g' cb w hl ha hb
theorem wy (PR : PRC) (ca : Option Addr) (cn cc : Nat) (w : World) (hn : cn ≤ 9223372036854775807) (dO : Bytes w.heap.size w ca cn) (ht : oW w) (hg : ErrG w) :
  Calls Tryz.prog 3 #[.slice ca cn cc] w fun e w' => e = .returned (.bool true) ∧ Below w.heap.size w w' := by
 by_cases hc : cn ≤ 1048576
 ·have PT := aa (tT PR ca cn cc w hc dO)
  have HT := aa ht
  have HG := aa hg
  have RN : ¬ (1048576 : Int) < (cn : Int) := by omega
  clear dO ht hg PR
  go_enter Tryz.func3, Tryz.ntmps3
  go_wp2_with fail
  refine PT.out.mono ?_
  rintro e w1 ⟨T, a, c, rfl, hp⟩
  have eZ := hp.below.size
  have eS : T.cost ≤ 1048576 := Nat.le_trans hp.cost (by omega)
  obtain ⟨J5, D2, Ox⟩ := Bo hp.code
  have hcd := hp.code
  have uF : T.size ≤ 600 := by have h := J5; unfold dh at h; simp only [Bool.and_eq_true, decide_eq_true_eq] at h; exact h.1.1.1.1
  have hnl := zT T
  have BS := aa hp.below
  have IC := aa (fun W (hb : Below w1.heap.size w1 W) => wR T W (.slice a T.len c) hp.fine (bl (ah hb lr hp.row) (Nat.zero_le _) hb.size) eS (ez HT.out (hp.below.trans (hb.mono eZ))) (HG.out.later (hp.below.trans (hb.mono eZ))))
  have IT := aa (fun W (hb : Below w1.heap.size w1 W) => wM T W (.slice a T.len c) hp.fine (bl (ah hb lr hp.row) (Nat.zero_le _) hb.size) eS (ez HT.out (hp.below.trans (hb.mono eZ))) (HG.out.later (hp.below.trans (hb.mono eZ))))
  have IN := aa (fun W (hb : Below w1.heap.size w1 W) => wN T W (.slice a T.len c) hp.fine (bl (ah hb lr hp.row) (Nat.zero_le _) hb.size) eS (ez HT.out (hp.below.trans (hb.mono eZ))) (HG.out.later (hp.below.trans (hb.mono eZ))))
  have ST := aa (fun W (hb : Below w1.heap.size w1 W) => vU T W (.slice a T.len c) W.heap.size hp.fine lr (bl (ah hb lr hp.row) (Nat.zero_le _) hb.size) eS)
  have SN := aa (fun W (hb : Below w1.heap.size w1 W) => vV T W (.slice a T.len c) W.heap.size hp.fine lr (bl (ah hb lr hp.row) (Nat.zero_le _) hb.size) eS)
  have IZ := aa (fun W (hb : Below w1.heap.size w1 W) => rJ T W (.slice a T.len c) hp.fine (bl (ah hb lr hp.row) (Nat.zero_le _) hb.size) eS)
  rw [hcd, D2] at IC IT ST
  rw [hcd] at IN SN
  clear hp HT HG PT eS J5 D2 hcd
  generalize di T = xs at *
  generalize fR T = ns at *
  generalize T.size = tz at *
  have hxl : xs.length ≤ 600 := by omega
  have hlz : ((xs.length : Int) == (tz : Int)) = true := by simp [Ox]
  clear Ox
  unfold Nd.val at *
  have ey : Below w1.heap.size w1 (w1.alloc (nO T (.slice a T.len c))) := bA
  have F1 : Hid (Four (w1.alloc (nO T (.slice a T.len c))) w1.heap.size (.int .i64 T.kind) (.int .i64 T.num) (.string T.name) (.slice a T.len c)) := Four.new w1 _ _ _ _ _
  have oO := aa ey
  clear ey
  go_wp2_with fail
  refine (IC.out _ oO.out).mono ?_
  rintro e w2 ⟨rfl, hb2⟩
  have ec := hb2.size
  simp only [World.size_alloc] at ec
  have B2 := aa (oO.out.trans (hb2.mono (by simp)))
  have F2 := aa (F1.out.keep hb2 (by simp))
  clear hb2 F1 oO IC
  obtain ⟨p0, p1, p2, p3⟩ := F2.out
  go_wp2_with fail
  refine (IT.out _ B2.out).mono ?_
  rintro e w3 ⟨tv, rfl, ho3, hb3⟩
  obtain ⟨ga, gc, rfl, _, _⟩ := dN ho3
  have vB := hb3.size
  have B3 := aa (B2.out.trans (hb3.mono (by omega)))
  have F3 := aa (F2.out.keep hb3 (by omega))
  have zu := aa ho3
  clear hb3 F2 B2 p0 p1 p2 p3 ho3 IT
  obtain ⟨p0, p1, p2, p3⟩ := F3.out
  go_wp2_with fail
  refine (ST.out _ B3.out).mono ?_
  rintro e w4 ⟨sv, rfl, fH, lg⟩
  obtain ⟨sa, sc, rfl, _, _⟩ := dN fH
  have Ot := lg.size
  have B4 := aa (B3.out.trans (lg.mono (by omega)))
  have F4 := aa (F3.out.keep lg (by omega))
  have Jk := aa (cW zu.out lg)
  have kG := aa fH
  clear lg F3 B3 p0 p1 p2 p3 fH zu ST
  obtain ⟨p0, p1, p2, p3⟩ := F4.out
  go_wp2_with fail
  refine (IN.out _ B4.out).mono ?_
  rintro e w5 ⟨nv, rfl, hn5, oT⟩
  obtain ⟨na, nc, rfl, _, _⟩ := dN hn5
  have Oq := oT.size
  have B5 := aa (B4.out.trans (oT.mono (by omega)))
  have F5 := aa (F4.out.keep oT (by omega))
  have VR := aa (cW Jk.out oT)
  have l7 := aa (cW kG.out oT)
  have HN5 := aa hn5
  clear oT F4 B4 p0 p1 p2 p3 hn5 Jk kG IN
  obtain ⟨p0, p1, p2, p3⟩ := F5.out
  go_wp2_with fail
  refine (SN.out _ B5.out).mono ?_
  rintro e w6 ⟨mv, rfl, hm6, oS⟩
  obtain ⟨ma, mc, rfl, _, _⟩ := dN hm6
  have Oo := oS.size
  have B6 := aa (B5.out.trans (oS.mono (by omega)))
  have F6 := aa (F5.out.keep oS (by omega))
  have HO6 := aa (cW VR.out oS)
  have ya := aa (cW l7.out oS)
  have HN6 := aa (cW HN5.out oS)
  have HM6 := aa hm6
  clear oS F5 B5 p0 p1 p2 p3 hm6 VR l7 HN5 SN
  go_wp2_with fail
  refine (qT xs _ _ _ _ _ (by omega) HO6.out ya.out).mono ?_
  rintro e w7 ⟨rfl, vK⟩
  have On := vK.size
  have B7 := aa (B6.out.trans (vK.mono (by omega)))
  have F7 := aa (F6.out.keep vK (by omega))
  have HN7 := aa (cW HN6.out vK)
  have HM7 := aa (cW HM6.out vK)
  clear vK F6 B6 HO6 ya HN6 HM6
  obtain ⟨p0, p1, p2, p3⟩ := F7.out
  go_wp2_with fail
  refine (IZ.out _ B7.out).mono ?_
  rintro e w8 ⟨rfl, RY⟩
  have hz8 := RY.size
  have B8 := aa (B7.out.trans (RY.mono (by omega)))
  have HN8 := aa (cW HN7.out RY)
  have HM8 := aa (cW HM7.out RY)
  clear RY F7 B7 p0 p1 p2 p3 HN7 HM7 IZ
  go_wp2_with fail
  refine (qS ns _ _ _ _ _ (by omega) HN8.out HM8.out).mono ?_
  rintro e w9 ⟨rfl, Er⟩
  have B9 := aa (BS.out.trans ((B8.out.trans (Er.mono (by omega))).mono eZ))
  clear Er B8 HN8 HM8
  go_wp2
  go_ret
  exact ⟨rfl, B9.out⟩
 ·have RN : (1048576 : Int) < (cn : Int) := by omega
  clear dO ht hg PR
  go_enter Tryz.func3, Tryz.ntmps3
  go_wp2
  go_ret
  exact ⟨rfl, Below.refl _ _⟩
end Go.Proofs.YteaocammohcgoaaGreatDoor
