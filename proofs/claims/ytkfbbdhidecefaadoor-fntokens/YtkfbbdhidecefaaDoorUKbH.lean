import Derived.Test.YtkfbbdhidecefaaDoorUKbB
import Derived.Test.YtkfbbdhidecefaaDoorUKbE
set_option linter.unusedVariables false
set_option maxHeartbeats 16000000
set_option maxRecDepth 100000
namespace Go.Proofs.YtkfbbdhidecefaaDoor
open Go.RowKit
variable {G : Prop}
theorem be0 (h : G := by
 have HO : Hid (fR T = false) := by unfold Hid; rw [kX.out]; simp; omega
 exact Ua) : G := h
theorem be1 (h : G := by
 have Py : Hid (pb = false) := by unfold Hid; rw [EH.out]; simp; omega
 exact TZ) : G := h
theorem be2 (h : G := by
 exact TZ) : G := h
theorem be3 (h : G := by
 have k_e17_1 := kk
 exact TT) : G := h
theorem be4 (h : G := by
 cases h1 : (tn != 0)
 all_goals go_enter Tryd.func43, Tryd.ntmps43
 all_goals go_wp2
 all_goals go_ret
 all_goals exact ⟨aq (by rw [kX.out]; simp only [az, he]; rfl), (HB _).out⟩) : G := h
theorem be5 (h : G := by
 go_roundg (T.len - (j + 1))
 case rel => exact ⟨j + 1, rfl, by omega, by go_num, HY.out HX.out, hb.trans (hb1.mono qi)⟩
 case measure => have := LB.out; omega) : G := h
theorem be6 (h : G := by
 obtain rfl : j = T.len := by omega
 go_wp2
 go_ret
 exact ⟨aq (by rw [kX.out, iD aN.out]; simp only [az, he, pc h1]; rfl), kU⟩) : G := h
theorem be7 (h : G := by
 go_enter Tryd.func43, Tryd.ntmps43
 go_wp2
 go_ret
 exact ⟨aq (by rw [kX.out]; simp only [az, he, pc h1]; rfl), (HB _).out⟩) : G := h
theorem be8 (h : G := by
 rw [hb.cell (p := ⟨w.heap.size, 3, none⟩) (by show w.heap.size < _; omega)]; simp) : G := h
theorem be9 (h : G := by
 go_ret
 exact ⟨aq (HN.out HX.out), kU.trans (hb1.mono zR)⟩) : G := h
theorem Ua (h : G := by
 have k_e16_1 := kk
 exact TU) : G := h
theorem TZ (h : G := by
 have k_e20_0 := kk
 exact TQ) : G := h
theorem OS (h : G := by
 go_ret
 exact ⟨aq HO.out.symm, (HB _).out.trans (hb1.mono (by simp))⟩) : G := h
theorem TY (h : G := by
 have HE := aa (fun W (hb : Below w.heap.size w W) => hE W v hi hf (by have := hb.size; omega) (ae hb gW hr))
 have HK := aa (fun W (hb : Below w.heap.size w W) bo => hK W v hi bo hf (by have := hb.size; omega) (ae hb gW hr))
 have HQ := aa hq
 have HS : Hid (T.name.size ≤ maxLen) := by unfold Hid maxLen; exact hs
 have HB : ∀ o : Obj, Hid (Below w.heap.size w (w.alloc o)) := fun o => bA
 unfold Nd.val at *
 rw [hk] at *
 subst hv
 clear hf hr hE hK hs hk hq
 generalize T.num = tn at *
 generalize T.name = ts at *
 have P1 : Hid True := trivial
 cases he : ts.toList.isEmpty
 all_goals cases h1 : (tn != 0)
 first
 |clear k_e13_0
  all_goals cases mC : aE (fun i => (T.kids i).eOk) (fun i => (T.kids i).sOk) T.kk T.len ⟨#[101, 98]⟩
  all_goals cases Sq : aE (fun i => (T.kids i).eOk) (fun i => (T.kids i).sOk) T.kk T.len ⟨#[101, 98, 105]⟩
  all_goals go_enter Tryd.func43, Tryd.ntmps43
  all_goals go_wp2_with (first | (go_at_call 63; clear P1; refine (HK.out _ (by first | exact (HB _).out | exact (HB _).out.trans (hb1.mono (by simp)) | exact (HB _).out.trans (hb2.mono (by simp))) ⟨#[101, 98]⟩ (by decide)).mono ?_; rw [mC]; rintro e w2 ⟨rfl, hb2⟩; have hQ := hb2.size; (try simp only [World.size_alloc] at hQ); obtain ⟨oC, Ay⟩ := iw hb2) | (go_at_call 63; refine (HK.out _ (by first | exact (HB _).out | exact (HB _).out.trans (hb1.mono (by simp)) | exact (HB _).out.trans (hb2.mono (by simp))) ⟨#[101, 98, 105]⟩ (by decide)).mono ?_; rw [Sq]; rintro e w3 ⟨rfl, hb3⟩; have hQ := hb3.size; (try simp only [World.size_alloc] at hQ); obtain ⟨oC, Ay⟩ := iw hb3))
  all_goals go_ret
  all_goals refine ⟨aq (by rw [kX.out]; unfold aJ; simp only [az, he, pc h1, mC, Sq]; rfl), ?_⟩
  all_goals first | exact (HB _).out | exact (HB _).out.trans (hb1.mono (by simp)) | exact (HB _).out.trans (hb2.mono (by simp)) | exact ((HB _).out.trans (hb1.mono (by simp))).trans (hb2.mono (by omega)) | exact ((HB _).out.trans (hb2.mono (by simp))).trans (hb3.mono (by omega))
 |clear k_e13_1
  all_goals cases mC : aE (fun i => (T.kids i).eOk) (fun i => (T.kids i).sOk) T.kk T.len ⟨#[98]⟩
  all_goals cases Sq : aE (fun i => (T.kids i).eOk) (fun i => (T.kids i).sOk) T.kk T.len ⟨#[101, 98]⟩
  all_goals go_enter Tryd.func43, Tryd.ntmps43
  all_goals go_wp2_with (first | (go_at_call 63; clear P1; refine (HK.out _ (by first | exact (HB _).out | exact (HB _).out.trans (hb1.mono (by simp)) | exact (HB _).out.trans (hb2.mono (by simp))) ⟨#[98]⟩ (by decide)).mono ?_; rw [mC]; rintro e w2 ⟨rfl, hb2⟩; have hQ := hb2.size; (try simp only [World.size_alloc] at hQ); obtain ⟨oC, Ay⟩ := iw hb2) | (go_at_call 63; refine (HK.out _ (by first | exact (HB _).out | exact (HB _).out.trans (hb1.mono (by simp)) | exact (HB _).out.trans (hb2.mono (by simp))) ⟨#[101, 98]⟩ (by decide)).mono ?_; rw [Sq]; rintro e w3 ⟨rfl, hb3⟩; have hQ := hb3.size; (try simp only [World.size_alloc] at hQ); obtain ⟨oC, Ay⟩ := iw hb3))
  all_goals go_ret
  all_goals refine ⟨aq (by rw [kX.out]; unfold aJ; simp only [az, he, pc h1, mC, Sq]; rfl), ?_⟩
  all_goals first | exact (HB _).out | exact (HB _).out.trans (hb1.mono (by simp)) | exact (HB _).out.trans (hb2.mono (by simp)) | exact ((HB _).out.trans (hb1.mono (by simp))).trans (hb2.mono (by omega)) | exact ((HB _).out.trans (hb2.mono (by simp))).trans (hb3.mono (by omega))) : G := h
theorem TW (h : G := by
 have HI := aa ih
 have HF := aa hf
 have HR := aa hq
 have HB : ∀ o : Obj, Hid (Below w.heap.size w (w.alloc o)) := fun o => bA
 unfold Nd.val at *
 rw [hk] at *
 subst hv
 clear hf hr hk hq ih
 generalize T.num = tn at *
 generalize T.name = ts at *
 cases he : ts.toList.isEmpty
 ·exact be4
 cases h1 : (tn != 0)
 first
 |clear k_e14_0
  ·go_enter Tryd.func43, Tryd.ntmps43
   go_wp2
   go_loopg [4] T.len (fun gk i wr => ∃ (j : Nat), gk = T.len - j ∧ j ≤ T.len ∧ i = .int .i64 j ∧ Hid (∀ i, i < j → (T.kids i).sOk = true) ∧ Below (w.heap.size + 1) (w.alloc (.cells #[.int .i64 4, .int .i64 tn, .string ts, .slice a T.len cap] 27)) wr)
   case atStart => exact ⟨0, by omega, by omega, rfl, (fun i hi => by omega), Below.refl _ _⟩
   case round =>
    obtain ⟨j, zN, hj, rfl, aN, hb⟩ := hrel
    have LB := aa zN
    clear zN
    have k3 : wr.cell? ⟨w.heap.size, 3, none⟩ = some (.slice a T.len cap) := by
     exact be8
    have kU := (HB (.cells #[.int .i64 4, .int .i64 tn, .string ts, .slice a T.len cap] 27)).out.trans (hb.mono (by omega))
    have zR := kU.size
    have qi : w.heap.size + 1 ≤ wr.heap.size := by have := hb.size; simpa using this
    by_cases bm : j < T.len
    ·have k_e15_1 := kk
     exact OR
    ·exact be6
  ·exact be7
 |clear k_e14_1
  ·go_enter Tryd.func43, Tryd.ntmps43
   go_wp2
   go_loopg [5] T.len (fun gk i wr => ∃ (j : Nat), gk = T.len - j ∧ j ≤ T.len ∧ i = .int .i64 j ∧ Hid (∀ i, i < j → (T.kids i).cOk = true) ∧ Below (w.heap.size + 1) (w.alloc (.cells #[.int .i64 15, .int .i64 tn, .string ts, .slice a T.len cap] 27)) wr)
   case atStart => exact ⟨0, by omega, by omega, rfl, (fun i hi => by omega), Below.refl _ _⟩
   case round =>
    obtain ⟨j, zN, hj, rfl, aN, hb⟩ := hrel
    have LB := aa zN
    clear zN
    have k3 : wr.cell? ⟨w.heap.size, 3, none⟩ = some (.slice a T.len cap) := by
     exact be8
    have kU := (HB (.cells #[.int .i64 15, .int .i64 tn, .string ts, .slice a T.len cap] 27)).out.trans (hb.mono (by omega))
    have zR := kU.size
    have qi : w.heap.size + 1 ≤ wr.heap.size := by have := hb.size; simpa using this
    by_cases bm : j < T.len
    ·have k_e15_2 := kk
     exact OR
    ·exact be6
  ·exact be7) : G := h
theorem OR (h : G := by
 rcases HR.out with h0 | ⟨g, off, rfl, g1, g2, g3⟩
 ·omega
 obtain ⟨u, e0, e1, e2, e3, hu⟩ := g3 j bm
 have tf : g < w.heap.size := by omega
 rw [← kU.cell (p := ⟨g, _, none⟩) tf] at e0 e1 e2 e3
 have HU := aa (ae kU gW hu)
 have HC := HI.out j bm
 have vR := aa (Nd.fine_kid HF.out bm)
 first
 |clear k_e15_0
  have HN : Hid (fR (T.kids j) = false → false = gg T) := fun h => by rw [HO.out, lG bm h]
  have HY : Hid (fR (T.kids j) = true → ∀ i, i < j + 1 → fR (T.kids i) = true) := fun h i hi => by
   by_cases e : i = j
   ·subst e; exact h
   ·exact aN.out i (by omega)
  unfold IN Nd.val at HC
  have AG := aa HC
  clear g3 HC hu aN
  generalize T.kids j = K at *
  cases hx : fR K
  all_goals have HX := aa hx
  all_goals clear hx
  all_goals go_wp2_with (go_at_call 21; refine (AG.out _ _ hi vR.out (by omega) HU.out).mono ?_; rw [HX.out]; rintro e w1 ⟨rfl, hb1⟩)
  ·exact be9
  ·exact be5
 |clear k_e15_1
  have HN : Hid ((T.kids j).sOk = false → false = T.sOk) := fun h => by rw [kX.out, lG bm h]; simp
  have HY : Hid ((T.kids j).sOk = true → ∀ i, i < j + 1 → (T.kids i).sOk = true) := fun h i hi => by
   by_cases e : i = j
   ·subst e; exact h
   ·exact aN.out i (by omega)
  unfold ic Nd.val at HC
  have AG := aa HC
  clear g3 HC hu aN
  generalize T.kids j = K at *
  have k_e19_1 := kk
  exact TR
 |clear k_e15_2
  have HN : Hid ((T.kids j).cOk = false → false = T.sOk) := fun h => by rw [kX.out, lG bm h]; simp
  have HY : Hid ((T.kids j).cOk = true → ∀ i, i < j + 1 → (T.kids i).cOk = true) := fun h i hi => by
   by_cases e : i = j
   ·subst e; exact h
   ·exact aN.out i (by omega)
  unfold xD Nd.val at HC
  have AG := aa HC
  clear g3 HC hu aN
  generalize T.kids j = K at *
  cases hx : K.cOk
  all_goals have HX := aa hx
  all_goals clear hx
  all_goals go_wp2_with (go_at_call 64; refine (AG.out _ _ hi vR.out (by omega) HU.out).mono ?_; rw [HX.out]; rintro e w1 ⟨rfl, hb1⟩)
  ·exact be9
  ·exact be5) : G := h
theorem TU (h : G := by
 go_enter Tryd.func21, Tryd.ntmps21
 go_wp2_with (go_at_call 42; refine (l6 _ _ HS.out).mono ?_; rw [il]; rintro e w1 ⟨rfl, hb1⟩; have hZ := hb1.size; simp only [World.size_alloc] at hZ; obtain ⟨iQ, yj⟩ := iw hb1)
 first
 |clear k_e16_0
  have Bv := hb1
  simp only [World.size_alloc] at Bv
  clear hb1 iQ yj hZ il h0 h3
  go_loopg [4] T.len (fun gk i wr => ∃ (j : Nat), gk = T.len - j ∧ j ≤ T.len - 1 ∧ i = .int .i64 j ∧ Hid (∀ i, i < j → mb (T.kids i) = true) ∧ Below (w.heap.size + 1) (w.alloc (.cells #[.int .i64 2, .int .i64 tn, .string ts, .slice a T.len cap] 27)) wr)
  case atStart => exact ⟨0, by omega, by omega, rfl, (fun i hi => by omega), Bv⟩
  case round =>
   obtain ⟨j, zN, hj, rfl, aN, hb⟩ := hrel
   have LB := aa zN
   clear zN Bv
   have k3 : wr.cell? ⟨w.heap.size, 3, none⟩ = some (.slice a T.len cap) := by
    exact be8
   have kU := (HB (.cells #[.int .i64 2, .int .i64 tn, .string ts, .slice a T.len cap] 27)).out.trans (hb.mono (by omega))
   have zR := kU.size
   have qi : w.heap.size + 1 ≤ wr.heap.size := by have := hb.size; simpa using this
   have zM : j < T.len := by omega
   rcases HR.out with h0 | ⟨g, off, rfl, g1, g2, g3⟩
   ·omega
   obtain ⟨u, e0, e1, e2, e3, hu⟩ := g3 j zM
   have tf : g < w.heap.size := by omega
   rw [← kU.cell (p := ⟨g, _, none⟩) tf] at e0 e1 e2 e3
   by_cases bm : j < T.len - 1
   ·have hlt' : (j : Int) < (T.len : Int) - 1 := by omega
    obtain ⟨au, cu, rfl, _⟩ := ar.1 hu
    have Mq := Nd.fine_name (Nd.fine_kid HF.out zM)
    have HSJ : Hid ((T.kids j).name.size ≤ maxLen) := by unfold Hid maxLen; exact Mq
    have HN : Hid (mb (T.kids j) = false → false = fR T) := fun h => by rw [HO.out, lG bm h]; simp
    have HY : Hid (mb (T.kids j) = true → ∀ i, i < j + 1 → mb (T.kids i) = true) := fun h i hi => by
     by_cases e : i = j
     ·subst e; exact h
     ·exact aN.out i (by omega)
    have EH : Hid (mb (T.kids j) = (decide ((T.kids j).kind = 3) && ck (T.kids j).name && (decide (1 ≤ (T.kids j).num) && decide ((T.kids j).num ≤ 3)) && decide ((T.kids j).len = 0))) := rfl
    have MH : ∀ o : Obj, Hid (Below wr.heap.size wr (wr.alloc o)) := fun o => bA
    clear g3 hu aN Mq
    generalize mb (T.kids j) = pb at *
    generalize T.kids j = P at *
    generalize P.kind = pk at *
    generalize P.num = pn at *
    generalize P.name = ps at *
    by_cases hk : pk = 3
    case neg =>
     have m1 : (pk != 3) = true := by rw [bne_iff_ne]; exact hk
     have Py : Hid (pb = false) := by unfold Hid; rw [EH.out]; simp [hk]
     clear hk
     go_wp2
     go_ret
     exact ⟨aq (HN.out Py.out), kU.trans ((MH _).out.mono zR)⟩
    subst hk
    cases il : ck ps
    ·have Py : Hid (pb = false) := by unfold Hid; rw [EH.out, il]; simp
     exact be2
    by_cases h0 : pn < 1
    ·exact be1
    by_cases h3 : 3 < pn
    ·exact be1
    cases zF : ((P.len : Int) != 0)
    ·have Py : Hid (pb = true) := by
      unfold Hid; rw [EH.out, il]
      have q1 : 1 ≤ pn := by omega
      have q2 : pn ≤ 3 := by omega
      have q3 : P.len = 0 := by have : (P.len : Int) = 0 := (by simpa using zF); omega
      simp [q1, q2, q3]
     have k_e20_1 := kk
     exact TQ
    ·have Py : Hid (pb = false) := by
      unfold Hid; rw [EH.out]
      have q3 : ¬ P.len = 0 := by
       intro h; rw [h] at zF; simp at zF
      simp [q3]
     exact be2
   ·obtain rfl : j = T.len - 1 := by omega
    have qw : ((T.len - 1 : Nat) : Int) = (T.len : Int) - 1 := by omega
    have C8 : Hid (cM (fun i => mb (T.kids i)) (T.len - 1) = true) := iD aN.out
    have HU := aa (ae kU gW hu)
    have HC := HI.out (T.len - 1) zM
    have vR := aa (Nd.fine_kid HF.out zM)
    have hoff : off + (T.len - 1) * 4 = off + (T.len - 1) * 4 := rfl
    unfold ic Nd.val at HC
    have AG := aa HC
    have Qr : Hid (fR T = (decide ((T.kids (T.len - 1)).kind = 4) && (T.kids (T.len - 1)).sOk)) := by unfold Hid; rw [HO.out, C8.out, Bool.true_and]
    clear g3 hu aN HC HO C8 hoff
    generalize T.kids (T.len - 1) = K at *
    rw [qw] at *
    by_cases hk : K.kind = 4
    ·have Kz : (K.kind == 4) = true := beq_iff_eq.2 hk
     replace Qr : Hid (fR T = K.sOk) := by have := Qr.out; simpa [hk, Hid] using this
     clear hk
     have k_e19_0 := kk
     exact TR
    ·have Kz : (K.kind == 4) = false := bn hk
     replace Qr : Hid (fR T = false) := by have := Qr.out; simpa [hk, Hid] using this
     clear hk
     go_wp2
     go_ret
     exact ⟨aq Qr.out.symm, kU⟩
 |clear k_e16_1
  exact OS) : G := h
theorem TT (h : G := by
 go_enter Tryd.func8, Tryd.ntmps8
 go_wp2_with (go_at_call 20; refine (HL.out _ (HB _).out).mono ?_; rw [hl]; rintro e w1 ⟨rfl, hb1⟩; have hZ := hb1.size; simp only [World.size_alloc] at hZ; obtain ⟨iQ, yj⟩ := iw hb1)
 first
 |clear k_e17_0
  have Bv := hb1
  simp only [World.size_alloc] at Bv
  clear hb1 iQ yj hZ he hl HL
  go_loopg [3] T.len (fun gk i wr => ∃ (j : Nat), gk = T.len - j ∧ j ≤ T.len ∧ i = .int .i64 j ∧ Hid (∀ i, i < j → fR (T.kids i) = true) ∧ Below (w.heap.size + 1) (w.alloc (.cells #[.int .i64 1, .int .i64 0, .string ts, .slice a T.len cap] 27)) wr)
  case atStart => exact ⟨0, by omega, by omega, rfl, (fun i hi => by omega), Bv⟩
  case round =>
   obtain ⟨j, zN, hj, rfl, aN, hb⟩ := hrel
   have LB := aa zN
   clear zN Bv
   have k3 : wr.cell? ⟨w.heap.size, 3, none⟩ = some (.slice a T.len cap) := by
    exact be8
   have kU := (HB (.cells #[.int .i64 1, .int .i64 0, .string ts, .slice a T.len cap] 27)).out.trans (hb.mono (by omega))
   have zR := kU.size
   have qi : w.heap.size + 1 ≤ wr.heap.size := by have := hb.size; simpa using this
   by_cases bm : j < T.len
   ·have k_e15_0 := kk
    exact OR
   ·obtain rfl : j = T.len := by omega
    go_wp2
    go_ret
    exact ⟨aq (by rw [HO.out, iD aN.out]), kU⟩
 |clear k_e17_1
  exact OS) : G := h
theorem TS (h : G := by
 unfold Nd.val at *
 subst hv
 clear hf hr hq fE
 generalize T.kind = tk at *
 generalize T.num = tn at *
 generalize T.name = ts at *
 cases he : ts.toList.isEmpty
 all_goals cases h1 : (tn != 0)
 first
 |clear k_e18_0
  all_goals go_enter Tryd.func43, Tryd.ntmps43
  all_goals go_wp2
  all_goals go_ret
  all_goals exact ⟨aq kX.out.symm, (HB _).out⟩
 |clear k_e18_1
  all_goals go_enter Tryd.func79, Tryd.ntmps79
  all_goals go_wp2
  all_goals go_ret
  all_goals exact ⟨aq kX.out.symm, (HB _).out⟩) : G := h
theorem TR (h : G := by
 cases hx : K.sOk
 all_goals have HX := aa hx
 all_goals clear hx
 all_goals go_wp2_with (go_at_call 43; refine (AG.out _ _ hi vR.out (by omega) HU.out).mono ?_; rw [HX.out]; rintro e w1 ⟨rfl, hb1⟩)
 first
 |clear k_e19_0
  all_goals go_ret
  all_goals exact ⟨aq (by rw [Qr.out, HX.out]), kU.trans (hb1.mono zR)⟩
 |clear k_e19_1
  ·exact be9
  ·exact be5) : G := h
theorem TQ (h : G := by
 go_wp2_with (go_at_call 42; refine (l6 _ _ HSJ.out).mono ?_; rw [il]; rintro e w1 ⟨rfl, hb1⟩; have hZ := hb1.size; simp only [World.size_alloc] at hZ; obtain ⟨iQ, yj⟩ := iw hb1)
 first
 |clear k_e20_0
  go_ret
  exact ⟨aq (HN.out Py.out), kU.trans ((((MH _).out.trans (hb1.mono (by simp)))).mono zR)⟩
 |clear k_e20_1
  go_roundg (T.len - (j + 1))
  case rel => exact ⟨j + 1, rfl, by omega, by go_num, HY.out Py.out, hb.trans ((((MH _).out.trans (hb1.mono (by simp)))).mono qi)⟩
  case measure => have := LB.out; omega) : G := h
theorem TP (h : G := by
 intro w v hi hf gW hr
 have hn := T.fine_len hf
 have hs := T.fine_name hf
 obtain ⟨a, cap, hv, bQ, hq⟩ := ar.1 hr
 have HB : ∀ o : Obj, Hid (Below w.heap.size w (w.alloc o)) := fun o => bA
 first
 |clear k_e21_0
  have HK := aa (fun W (hb : Below w.heap.size w W) bo => hK W v hi bo hf (by have := hb.size; omega) (ae hb gW hr))
  have HS : Hid (T.name.size ≤ maxLen) := by unfold Hid maxLen; exact hs
  by_cases hk : T.kind = 16
  ·have kX : Hid (T.cOk = mE 16 T.num T.name T.len (fun i => (T.kids i).eOk) (fun i => (T.kids i).sOk) T.kk) := by have := pQ T; rw [hk] at this; exact this
   unfold Nd.val at HK ⊢
   rw [hk] at HK ⊢
   subst hv
   clear hf hr hK hs hk hq bQ
   generalize T.num = tn at *
   generalize T.name = ts at *
   by_cases c0 : tn = 0
   ·subst c0
    cases he : ts.toList.isEmpty
    all_goals cases mC : aE (fun i => (T.kids i).eOk) (fun i => (T.kids i).sOk) T.kk T.len ⟨#[98]⟩
    all_goals go_enter Tryd.func64, Tryd.ntmps64
    all_goals go_wp2_with ((go_at_call 63; refine (HK.out _ (by first | exact (HB _).out | exact (HB _).out.trans (hb1.mono (by simp)) | exact (HB _).out.trans (hb2.mono (by simp))) ⟨#[98]⟩ (by decide)).mono ?_; rw [mC]; rintro e w2 ⟨rfl, hb2⟩; have hQ := hb2.size; (try simp only [World.size_alloc] at hQ); obtain ⟨oC, Ay⟩ := iw hb2))
    all_goals go_ret
    all_goals refine ⟨aq (by rw [kX.out]; unfold mE; simp only [az, he, mC]; rfl), ?_⟩
    all_goals first | exact (HB _).out | exact (HB _).out.trans (hb2.mono (by simp))
   by_cases c1 : tn = 1
   ·subst c1
    cases he : ts.toList.isEmpty
    all_goals cases il : ck ts
    all_goals cases mC : aE (fun i => (T.kids i).eOk) (fun i => (T.kids i).sOk) T.kk T.len ⟨#[101, 98]⟩
    all_goals go_enter Tryd.func64, Tryd.ntmps64
    all_goals go_wp2_with (first | (go_at_call 42; refine (l6 _ _ HS.out).mono ?_; rw [il]; rintro e w1 ⟨rfl, hb1⟩; have hZ := hb1.size; simp only [World.size_alloc] at hZ; obtain ⟨iQ, yj⟩ := iw hb1) | (go_at_call 63; refine (HK.out _ (by first | exact (HB _).out | exact (HB _).out.trans (hb1.mono (by simp)) | exact (HB _).out.trans (hb2.mono (by simp))) ⟨#[101, 98]⟩ (by decide)).mono ?_; rw [mC]; rintro e w2 ⟨rfl, hb2⟩; have hQ := hb2.size; (try simp only [World.size_alloc] at hQ); obtain ⟨oC, Ay⟩ := iw hb2))
    all_goals go_ret
    all_goals refine ⟨aq (by rw [kX.out]; unfold mE; simp only [az, he, il, mC]; rfl), ?_⟩
    all_goals first | exact (HB _).out | exact (HB _).out.trans (hb1.mono (by simp)) | exact (HB _).out.trans (hb2.mono (by simp)) | exact ((HB _).out.trans (hb1.mono (by simp))).trans (hb2.mono (by omega))
   by_cases c2 : tn = 2
   ·subst c2
    cases he : ts.toList.isEmpty
    all_goals cases mC : aE (fun i => (T.kids i).eOk) (fun i => (T.kids i).sOk) T.kk T.len ⟨#[101, 101, 98]⟩
    all_goals go_enter Tryd.func64, Tryd.ntmps64
    all_goals go_wp2_with ((go_at_call 63; refine (HK.out _ (by first | exact (HB _).out | exact (HB _).out.trans (hb1.mono (by simp)) | exact (HB _).out.trans (hb2.mono (by simp))) ⟨#[101, 101, 98]⟩ (by decide)).mono ?_; rw [mC]; rintro e w2 ⟨rfl, hb2⟩; have hQ := hb2.size; (try simp only [World.size_alloc] at hQ); obtain ⟨oC, Ay⟩ := iw hb2))
    all_goals go_ret
    all_goals refine ⟨aq (by rw [kX.out]; unfold mE; simp only [az, he, mC]; rfl), ?_⟩
    all_goals first | exact (HB _).out | exact (HB _).out.trans (hb2.mono (by simp))
   ·have HF : Hid (T.cOk = false) := by unfold Hid; rw [kX.out]; unfold mE; rw [if_pos rfl, if_neg c0, if_neg c1, if_neg c2, Bool.and_false]
    have n0 : (tn == 0) = false := bn c0
    have n1 : (tn == 1) = false := bn c1
    have n2 : (tn == 2) = false := bn c2
    have m1 : (tn != 1) = true := by rw [bne_iff_ne]; exact c1
    clear c0 c1 c2
    cases he : ts.toList.isEmpty
    all_goals go_enter Tryd.func64, Tryd.ntmps64
    all_goals go_wp2
    all_goals go_ret
    all_goals exact ⟨aq HF.out.symm, (HB _).out⟩
  ·have HF := aa (If T hk)
   have m1 : (T.kind != 16) = true := by rw [bne_iff_ne]; exact hk
   unfold Nd.val at *
   subst hv
   clear hf hr hK hs hk hq bQ
   generalize T.kind = tk at *
   generalize T.num = tn at *
   generalize T.name = ts at *
   go_enter Tryd.func64, Tryd.ntmps64
   go_wp2
   go_ret
   exact ⟨aq HF.out.symm, (HB _).out⟩
 |clear k_e21_1
  have HS : Hid (T.name.size ≤ maxLen) := by unfold Hid maxLen; exact hs
  have kX : Hid (fR T = (decide (T.kind = 2) && ck T.name && (decide (0 ≤ T.num) && decide (T.num ≤ 3)) && decide (1 ≤ T.len) && (cM (fun i => mb (T.kids i)) (T.len - 1) && (decide ((T.kids (T.len - 1)).kind = 4) && (T.kids (T.len - 1)).sOk)))) := rfl
  have HI := aa ih
  have HF := aa hf
  have HR := aa hq
  unfold Nd.val at *
  subst hv
  clear hf hr hs hq bQ ih
  generalize T.kind = tk at *
  generalize T.num = tn at *
  generalize T.name = ts at *
  by_cases hk : tk = 2
  case neg =>
   have m1 : (tk != 2) = true := by rw [bne_iff_ne]; exact hk
   have HO : Hid (fR T = false) := by unfold Hid; rw [kX.out]; simp [hk]
   clear hk
   go_enter Tryd.func21, Tryd.ntmps21
   go_wp2
   go_ret
   exact ⟨aq HO.out.symm, (HB _).out⟩
  subst hk
  cases il : ck ts
  ·have HO : Hid (fR T = false) := by unfold Hid; rw [kX.out, il]; simp
   exact Ua
  by_cases h0 : tn < 0
  ·exact be0
  by_cases h3 : 3 < tn
  ·exact be0
  by_cases hl : T.len < 1
  ·exact be0
  have HO : Hid (fR T = (cM (fun i => mb (T.kids i)) (T.len - 1) && (decide ((T.kids (T.len - 1)).kind = 4) && (T.kids (T.len - 1)).sOk))) := by
   unfold Hid; rw [kX.out, il]
   have q1 : 0 ≤ tn := by omega
   have q2 : tn ≤ 3 := by omega
   have q3 : 1 ≤ T.len := by omega
   simp [q1, q2, q3]
  clear kX
  have Sm : (1 : Int) ≤ (T.len : Int) := by omega
  have k_e16_0 := kk
  exact TU) : G := h
theorem JX (T : Nd) (hk : T.kind = 10) (hE : gL T) (hK : iG T) : ic T := by
 intro w v hi hf gW hr
 have hn := T.fine_len hf
 have hs := T.fine_name hf
 obtain ⟨a, cap, hv, _, hq⟩ := ar.1 hr
 have kX : Hid (T.sOk = aJ 10 T.num T.name T.len (fun i => (T.kids i).eOk) (fun i => (T.kids i).sOk) (fun i => (T.kids i).cOk) T.kk) := by have := aG T; rw [hk] at this; exact this
 have k_e13_0 := kk
 exact TY
theorem JW (T : Nd) (hk : T.kind = 11) (hE : gL T) (hK : iG T) : ic T := by
 intro w v hi hf gW hr
 have hn := T.fine_len hf
 have hs := T.fine_name hf
 obtain ⟨a, cap, hv, _, hq⟩ := ar.1 hr
 have kX : Hid (T.sOk = aJ 11 T.num T.name T.len (fun i => (T.kids i).eOk) (fun i => (T.kids i).sOk) (fun i => (T.kids i).cOk) T.kk) := by have := aG T; rw [hk] at this; exact this
 have k_e13_1 := kk
 exact TY
theorem xY {e st : Nat → Bool} {kk : Nat → Int} {len : Nat} (h : aE e st kk len ⟨#[101]⟩ = true) : len = 1 := by
 unfold aE at h
 simp only [Bool.and_eq_true, decide_eq_true_eq] at h
 exact h.1
theorem Ns (T : Nd) (hk : T.kind = 9) (hK : iG T) : ic T := by
 intro w v hi hf gW hr
 have hn := T.fine_len hf
 obtain ⟨a, cap, hv, _, hq⟩ := ar.1 hr
 have kX : Hid (T.sOk = aJ 9 T.num T.name T.len (fun i => (T.kids i).eOk) (fun i => (T.kids i).sOk) (fun i => (T.kids i).cOk) T.kk) := by have := aG T; rw [hk] at this; exact this
 have HK := aa (fun W (hb : Below w.heap.size w W) bo => hK W v hi bo hf (by have := hb.size; omega) (ae hb gW hr))
 have HQ := aa hq
 have HB : ∀ o : Obj, Hid (Below w.heap.size w (w.alloc o)) := fun o => bA
 unfold Nd.val at *
 rw [hk] at *
 subst hv
 clear hf hr hK hk hq
 generalize T.num = tn at *
 generalize T.name = ts at *
 have Mu : T.kk 0 = (T.kids 0).kind := rfl
 cases mC : aE (fun i => (T.kids i).eOk) (fun i => (T.kids i).sOk) T.kk T.len ⟨#[101]⟩
 ·clear Mu
  cases he : ts.toList.isEmpty
  all_goals cases h1 : (tn != 0)
  all_goals go_enter Tryd.func43, Tryd.ntmps43
  all_goals go_wp2_with (go_at_call 63; refine (HK.out _ (HB _).out ⟨#[101]⟩ (by decide)).mono ?_; rw [mC]; rintro e w2 ⟨rfl, hb2⟩; have hQ := hb2.size; simp only [World.size_alloc] at hQ; obtain ⟨oC, Ay⟩ := iw hb2)
  all_goals go_ret
  all_goals refine ⟨aq (by rw [kX.out]; unfold aJ; simp only [az, he, pc h1, mC]; rfl), ?_⟩
  all_goals first | exact (HB _).out | exact (HB _).out.trans (hb2.mono (by simp))
 ·have Sm := xY mC
  rcases HQ.out with h0 | ⟨g, off, rfl, g1, g2, g3⟩
  ·omega
  obtain ⟨u, e0, _⟩ := g3 0 (by omega)
  simp only [Nat.zero_mul, Nat.add_zero] at e0
  rw [← Mu] at e0
  have tE := aa e0
  have bm : (0 : Int) < (T.len : Int) := by omega
  clear Mu Sm e0 g3
  generalize zL : T.kk 0 = k0 at *
  have HK0 := aa zL
  clear zL
  cases he : ts.toList.isEmpty
  all_goals cases h1 : (tn != 0)
  all_goals cases h2 : (k0 == 25)
  all_goals cases h3 : (k0 == 29)
  all_goals go_enter Tryd.func43, Tryd.ntmps43
  all_goals go_wp2_with (go_at_call 63; refine (HK.out _ (HB _).out ⟨#[101]⟩ (by decide)).mono ?_; rw [mC]; rintro e w2 ⟨rfl, hb2⟩; have hQ := hb2.size; simp only [World.size_alloc] at hQ; obtain ⟨oC, Ay⟩ := iw hb2; have q0 := (((HB _).out.trans (hb2.mono (by simp))).cell (p := ⟨g, off, none⟩) (by show g < _; omega)).trans tE.out)
  all_goals go_ret
  all_goals refine ⟨aq (by rw [kX.out]; unfold aJ; simp only [az, he, pc h1, mC, HK0.out, wV h2, wV h3]; rfl), ?_⟩
  all_goals first | exact (HB _).out | exact (HB _).out.trans (hb2.mono (by simp))
theorem Nx (T : Nd) (hk : T.kind = 4) (ih : ∀ i, i < T.len → ic (T.kids i)) : ic T := by
 intro w v hi hf gW hr
 have hn := T.fine_len hf
 obtain ⟨a, cap, hv, _, hq⟩ := ar.1 hr
 have kX : Hid (T.sOk = (az T.name && decide (T.num = 0) && cM (fun i => (T.kids i).sOk) T.len)) := by have := aG T; rw [hk] at this; exact this
 have k_e14_0 := kk
 exact TW
theorem JS (T : Nd) (hk : T.kind = 15) (ih : ∀ i, i < T.len → xD (T.kids i)) : ic T := by
 intro w v hi hf gW hr
 have hn := T.fine_len hf
 obtain ⟨a, cap, hv, _, hq⟩ := ar.1 hr
 have kX : Hid (T.sOk = (az T.name && decide (T.num = 0) && cM (fun i => (T.kids i).cOk) T.len)) := by have := aG T; rw [hk] at this; exact this
 have k_e14_1 := kk
 exact TW
theorem BF (T : Nd) (fE : ∀ k : Int, k ∈ [22, 23, 24, 25, 26, 27, 28, 29] → T.kind ≠ k) : mL T := by
 intro w v hi hf gW hr
 have hs := T.fine_name hf
 obtain ⟨a, cap, hv, _, hq⟩ := ar.1 hr
 have kX : Hid (T.eOk = false) := by
  unfold Hid; rw [b8 T]; unfold cq
  simp only [List.mem_cons, List.not_mem_nil, or_false, forall_eq_or_imp, forall_eq] at fE
  simp only [fE, if_false]
 have HB : ∀ o : Obj, Hid (Below w.heap.size w (w.alloc o)) := fun o => bA
 have n22 : (T.kind == 22) = false := bn (fE 22 (by simp))
 have n23 : (T.kind == 23) = false := bn (fE 23 (by simp))
 have n24 : (T.kind == 24) = false := bn (fE 24 (by simp))
 have n25 : (T.kind == 25) = false := bn (fE 25 (by simp))
 have n26 : (T.kind == 26) = false := bn (fE 26 (by simp))
 have n27 : (T.kind == 27) = false := bn (fE 27 (by simp))
 have n28 : (T.kind == 28) = false := bn (fE 28 (by simp))
 have n29 : (T.kind == 29) = false := bn (fE 29 (by simp))
 have m22 : (T.kind != 22) = true := by rw [bne_iff_ne]; exact fE 22 (by simp)
 have m23 : (T.kind != 23) = true := by rw [bne_iff_ne]; exact fE 23 (by simp)
 have k_e18_1 := kk
 exact TS
theorem AM (T : Nd) (fE : ∀ k : Int, k ∈ [4, 5, 6, 7, 8, 9, 10, 11, 12, 13, 14, 15, 17, 18, 19, 20, 21] → T.kind ≠ k) : ic T := by
 intro w v hi hf gW hr
 have hs := T.fine_name hf
 obtain ⟨a, cap, hv, _, hq⟩ := ar.1 hr
 have kX : Hid (T.sOk = false) := by
  unfold Hid; rw [aG T]; unfold aJ
  simp only [List.mem_cons, List.not_mem_nil, or_false, forall_eq_or_imp, forall_eq] at fE
  simp only [fE, or_self, if_false]
 have HB : ∀ o : Obj, Hid (Below w.heap.size w (w.alloc o)) := fun o => bA
 have n4 : (T.kind == 4) = false := bn (fE 4 (by simp))
 have n5 : (T.kind == 5) = false := bn (fE 5 (by simp))
 have n6 : (T.kind == 6) = false := bn (fE 6 (by simp))
 have n7 : (T.kind == 7) = false := bn (fE 7 (by simp))
 have n8 : (T.kind == 8) = false := bn (fE 8 (by simp))
 have n9 : (T.kind == 9) = false := bn (fE 9 (by simp))
 have n10 : (T.kind == 10) = false := bn (fE 10 (by simp))
 have n11 : (T.kind == 11) = false := bn (fE 11 (by simp))
 have n12 : (T.kind == 12) = false := bn (fE 12 (by simp))
 have n13 : (T.kind == 13) = false := bn (fE 13 (by simp))
 have n14 : (T.kind == 14) = false := bn (fE 14 (by simp))
 have n15 : (T.kind == 15) = false := bn (fE 15 (by simp))
 have n17 : (T.kind == 17) = false := bn (fE 17 (by simp))
 have n18 : (T.kind == 18) = false := bn (fE 18 (by simp))
 have n19 : (T.kind == 19) = false := bn (fE 19 (by simp))
 have n20 : (T.kind == 20) = false := bn (fE 20 (by simp))
 have n21 : (T.kind == 21) = false := bn (fE 21 (by simp))
 have m7 : (T.kind != 7) = true := by rw [bne_iff_ne]; exact fE 7 (by simp)
 have k_e18_0 := kk
 exact TS
theorem If (T : Nd) (h : T.kind ≠ 16) : T.cOk = false := by rw [pQ]; unfold mE; rw [if_neg h]
theorem Ig (T : Nd) (hK : iG T) : xD T := by
 have k_e21_0 := kk
 exact TP
def IN (T : Nd) : Prop := ∀ (w : World) (v : Value) (hi : Nat), T.Fine → hi ≤ w.heap.size → Row 0 hi w T v →
 Calls Tryd.prog 21 #[T.val v] w fun e w' => e = .returned (.bool (fR T)) ∧ Below w.heap.size w w'
theorem Hp (T : Nd) (ih : ∀ i, i < T.len → ic (T.kids i)) : IN T := by
 have k_e21_1 := kk
 exact TP
theorem NT (T : Nd) : mL T ∧ ic T ∧ xD T := by
 have step : ∀ T : Nd, (∀ i, i < T.len → mL (T.kids i) ∧ ic (T.kids i) ∧ xD (T.kids i)) → mL T ∧ ic T ∧ xD T := by
  intro T ih
  have hE := Hv T fun i hi => (ih i hi).1
  have hK := Km T fun i hi => ⟨(ih i hi).1, (ih i hi).2.1⟩
  refine ⟨?_, ?_, Ig T hK⟩
  ·by_cases Bx : T.kind = 22
   ·exact K3 T Bx hE hK
   by_cases ym : T.kind = 23
   ·exact KZ T ym hE hK
   by_cases AA : T.kind = 24
   ·exact KY T AA hE hK
   by_cases yl : T.kind = 25
   ·exact KX T yl hE hK
   by_cases xn : T.kind = 26
   ·exact KW T xn hE hK
   by_cases yK : T.kind = 27
   ·exact KV T yK hE hK
   by_cases Az : T.kind = 28
   ·exact KU T Az hE hK
   by_cases zZ : T.kind = 29
   ·exact KT T zZ hE hK
   exact BF T fun k hk => by
    simp only [List.mem_cons, List.not_mem_nil, or_false] at hk
    rcases hk with rfl | rfl | rfl | rfl | rfl | rfl | rfl | rfl <;> assumption
  ·by_cases h4 : T.kind = 4
   ·exact Nx T h4 fun i hi => (ih i hi).2.1
   by_cases h9 : T.kind = 9
   ·exact Ns T h9 hK
   by_cases vN : T.kind = 15
   ·exact JS T vN fun i hi => (ih i hi).2.2
   by_cases h5 : T.kind = 5
   ·exact Nw T h5 hE hK
   by_cases h6 : T.kind = 6
   ·exact Nv T h6 hE hK
   by_cases h7 : T.kind = 7
   ·exact Nu T h7 hE hK
   by_cases h8 : T.kind = 8
   ·exact Nt T h8 hE hK
   by_cases lA : T.kind = 10
   ·exact JX T lA hE hK
   by_cases rM : T.kind = 11
   ·exact JW T rM hE hK
   by_cases tM : T.kind = 12
   ·exact JV T tM hE hK
   by_cases CG : T.kind = 13
   ·exact JU T CG hE hK
   by_cases CF : T.kind = 14
   ·exact JT T CF hE hK
   by_cases wb : T.kind = 17
   ·exact JR T wb hE hK
   by_cases AD : T.kind = 18
   ·exact JQ T AD hE hK
   by_cases AC : T.kind = 19
   ·exact JP T AC hE hK
   by_cases AB : T.kind = 20
   ·exact JO T AB hE hK
   by_cases yL : T.kind = 21
   ·exact JN T yL hE hK
   exact AM T fun k hk => by
    simp only [List.mem_cons, List.not_mem_nil, or_false] at hk
    rcases hk with rfl | rfl | rfl | rfl | rfl | rfl | rfl | rfl | rfl | rfl | rfl | rfl | rfl | rfl | rfl | rfl | rfl <;> assumption
 induction T with
 |nil => exact step _ fun i hi => absurd hi (Nat.not_lt_zero i)
 |mk k n s len kids ih => exact step _ fun i _ => ih i
theorem DY (T : Nd) (w : World) (v : Value) (hi : Nat) (hf : T.Fine) (gW : hi ≤ w.heap.size) (hr : Row 0 hi w T v) :
  Calls Tryd.prog 8 #[T.val v] w fun e w' => e = .returned (.bool (gg T)) ∧ Below w.heap.size w w' := by
 have hn := T.fine_len hf
 obtain ⟨a, cap, hv, bQ, hq⟩ := ar.1 hr
 have HB : ∀ o : Obj, Hid (Below w.heap.size w (w.alloc o)) := fun o => bA
 have HL := aa (fun W (hb : Below w.heap.size w W) => zr T W 600 v hi hf (by have := hb.size; omega) (ae hb gW hr) (by omega))
 have kX : Hid (gg T = (decide (T.size ≤ 600) && decide (T.kind = 1) && decide (T.num = 0) && az T.name && cM (fun i => fR (T.kids i)) T.len)) := rfl
 have HI : Hid (∀ i, i < T.len → IN (T.kids i)) := fun i hi => Hp _ fun j _ => (NT _).2.1
 have HF := aa hf
 have HR := aa hq
 have Pq : Hid (qt T.size 600 = if T.size ≤ 600 then ((600 - T.size : Nat) : Int) else -1) := rfl
 unfold Nd.val at *
 subst hv
 clear hf hr hq bQ
 generalize T.kind = tk at *
 generalize T.num = tn at *
 generalize T.name = ts at *
 by_cases hz : T.size ≤ 600
 case neg =>
  have HO : Hid (gg T = false) := by unfold Hid; rw [kX.out]; simp [hz]
  have hl : qt T.size 600 = -1 := by have := Pq.out; rw [if_neg hz] at this; exact this
  go_enter Tryd.func8, Tryd.ntmps8
  go_wp2_with (go_at_call 20; refine (HL.out _ (HB _).out).mono ?_; rw [hl]; rintro e w1 ⟨rfl, hb1⟩)
  exact OS
 have hl : qt T.size 600 = ((600 - T.size : Nat) : Int) := by have := Pq.out; rw [if_pos hz] at this; exact this
 have zK : ¬ (((600 - T.size : Nat) : Int) < 0) := by omega
 by_cases CA : tk = 1 ∧ tn = 0 ∧ ts.toList.isEmpty = true
 case neg =>
  have HO : Hid (gg T = false) := by
   unfold Hid; rw [kX.out]
   cases h1 : decide (tk = 1)
   ·simp
   cases h2 : decide (tn = 0)
   ·simp
   cases h3 : ts.toList.isEmpty
   ·simp [az, h3]
   ·exact absurd ⟨of_decide_eq_true h1, of_decide_eq_true h2, h3⟩ CA
  have HG : Hid ((tk != 1) = false → (tn != 0) = false → ts.toList.isEmpty = true → False) := fun h1 h2 h3 => CA ⟨by simpa using h1, by simpa using h2, h3⟩
  clear CA Pq kX
  cases h1 : (tk != 1)
  ·cases h2 : (tn != 0)
   ·cases h3 : ts.toList.isEmpty
    ·exact be3
    ·exact (HG.out h1 h2 h3).elim
   ·exact be3
  ·exact be3
 obtain ⟨rfl, rfl, he⟩ := CA
 have HO : Hid (gg T = cM (fun i => fR (T.kids i)) T.len) := by unfold Hid; rw [kX.out]; simp [hz, az, he]
 clear kX Pq hz
 have k_e17_0 := kk
 exact TT
end Go.Proofs.YtkfbbdhidecefaaDoor
