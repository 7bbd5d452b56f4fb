import Derived.Test.YteaocammohcgoaaGreatDoorQKbB
import Derived.Test.YteaocammohcgoaaGreatDoorQKbE
set_option linter.unusedVariables false
set_option maxHeartbeats 16000000
set_option maxRecDepth 100000
namespace Go.Proofs.YteaocammohcgoaaGreatDoor
open Go.RowKit
variable {G : Prop}
theorem bG0 (h : G := by
 have HO : Hid (cZ T = false) := by unfold Hid; rw [fb.out]; simp; omega
 exact VC) : G := h
theorem bG1 (h : G := by
 have FQ : Hid (pb = false) := by unfold Hid; rw [BS.out]; simp; omega
 exact VB) : G := h
theorem bG2 (h : G := by
 have k_G17_1 := kk
 exact Vx) : G := h
theorem bG3 (h : G := by
 exact VB) : G := h
theorem bG4 (h : G := by
 cases h1 : (tn != 0)
 all_goals go_enter Tryz.func60, Tryz.ntmps60
 all_goals go_wp2
 all_goals go_ret
 all_goals exact ⟨ao (by rw [fb.out]; simp only [al, he]; rfl), (HB _).out⟩) : G := h
theorem bG5 (h : G := by
 go_roundg (T.len - (j + 1))
 case rel => exact ⟨j + 1, rfl, by omega, by go_num, HY.out HX.out, hb.trans (hb1.mono fC)⟩
 case measure => have := zv.out; omega) : G := h
theorem bG6 (h : G := by
 obtain rfl : j = T.len := by omega
 go_wp2
 go_ret
 exact ⟨ao (by rw [fb.out, eE bj.out]; simp only [al, he, kC h1]; rfl), eJ⟩) : G := h
theorem bG7 (h : G := by
 go_enter Tryz.func60, Tryz.ntmps60
 go_wp2
 go_ret
 exact ⟨ao (by rw [fb.out]; simp only [al, he, kC h1]; rfl), (HB _).out⟩) : G := h
theorem bG8 (h : G := by
 rw [hb.cell (p := ⟨w.heap.size, 3, none⟩) (by show w.heap.size < _; omega)]; simp) : G := h
theorem bG9 (h : G := by
 go_ret
 exact ⟨ao (HN.out HX.out), eJ.trans (hb1.mono vI)⟩) : G := h
theorem VC (h : G := by
 have k_G16_1 := kk
 exact Vy) : G := h
theorem VB (h : G := by
 have k_G20_0 := kk
 exact Vu) : G := h
theorem NC (h : G := by
 go_ret
 exact ⟨ao HO.out.symm, (HB _).out.trans (hb1.mono (by simp))⟩) : G := h
theorem VA (h : G := by
 have HE := aa (fun W (hb : Below w.heap.size w W) => hE W v hi hf (by have := hb.size; omega) (ah hb cY hr))
 have HK := aa (fun W (hb : Below w.heap.size w W) bD => hK W v hi bD hf (by have := hb.size; omega) (ah hb cY hr))
 have HQ := aa hq
 have HS : Hid (T.name.size ≤ maxLen) := by unfold Hid maxLen; exact hs
 have HB : ∀ o : Obj, Hid (Below w.heap.size w (w.alloc o)) := fun o => bA
 unfold Nd.val at *
 rw [hk] at *
 subst hv
 clear hf hr hE hK hs hk hq
 generalize T.num = tn at *
 generalize T.name = ts at *
 have P1 : Hid True := trivial
 cases he : ts.toList.isEmpty
 all_goals cases h1 : (tn != 0)
 first
 |clear k_G13_0
  all_goals cases gX : aK (fun i => (T.kids i).eOk) (fun i => (T.kids i).sOk) T.kk T.len ⟨#[101, 98]⟩
  all_goals cases Rm : aK (fun i => (T.kids i).eOk) (fun i => (T.kids i).sOk) T.kk T.len ⟨#[101, 98, 105]⟩
  all_goals go_enter Tryz.func60, Tryz.ntmps60
  all_goals go_wp2_with (first | (go_at_call 82; clear P1; refine (HK.out _ (by first | exact (HB _).out | exact (HB _).out.trans (hb1.mono (by simp)) | exact (HB _).out.trans (hb2.mono (by simp))) ⟨#[101, 98]⟩ (by decide)).mono ?_; rw [gX]; rintro e w2 ⟨rfl, hb2⟩; have ec := hb2.size; (try simp only [World.size_alloc] at ec); obtain ⟨iy, sW⟩ := eG hb2) | (go_at_call 82; refine (HK.out _ (by first | exact (HB _).out | exact (HB _).out.trans (hb1.mono (by simp)) | exact (HB _).out.trans (hb2.mono (by simp))) ⟨#[101, 98, 105]⟩ (by decide)).mono ?_; rw [Rm]; rintro e w3 ⟨rfl, hb3⟩; have ec := hb3.size; (try simp only [World.size_alloc] at ec); obtain ⟨iy, sW⟩ := eG hb3))
  all_goals go_ret
  all_goals refine ⟨ao (by rw [fb.out]; unfold ba; simp only [al, he, kC h1, gX, Rm]; rfl), ?_⟩
  all_goals first | exact (HB _).out | exact (HB _).out.trans (hb1.mono (by simp)) | exact (HB _).out.trans (hb2.mono (by simp)) | exact ((HB _).out.trans (hb1.mono (by simp))).trans (hb2.mono (by omega)) | exact ((HB _).out.trans (hb2.mono (by simp))).trans (hb3.mono (by omega))
 |clear k_G13_1
  all_goals cases gX : aK (fun i => (T.kids i).eOk) (fun i => (T.kids i).sOk) T.kk T.len ⟨#[98]⟩
  all_goals cases Rm : aK (fun i => (T.kids i).eOk) (fun i => (T.kids i).sOk) T.kk T.len ⟨#[101, 98]⟩
  all_goals go_enter Tryz.func60, Tryz.ntmps60
  all_goals go_wp2_with (first | (go_at_call 82; clear P1; refine (HK.out _ (by first | exact (HB _).out | exact (HB _).out.trans (hb1.mono (by simp)) | exact (HB _).out.trans (hb2.mono (by simp))) ⟨#[98]⟩ (by decide)).mono ?_; rw [gX]; rintro e w2 ⟨rfl, hb2⟩; have ec := hb2.size; (try simp only [World.size_alloc] at ec); obtain ⟨iy, sW⟩ := eG hb2) | (go_at_call 82; refine (HK.out _ (by first | exact (HB _).out | exact (HB _).out.trans (hb1.mono (by simp)) | exact (HB _).out.trans (hb2.mono (by simp))) ⟨#[101, 98]⟩ (by decide)).mono ?_; rw [Rm]; rintro e w3 ⟨rfl, hb3⟩; have ec := hb3.size; (try simp only [World.size_alloc] at ec); obtain ⟨iy, sW⟩ := eG hb3))
  all_goals go_ret
  all_goals refine ⟨ao (by rw [fb.out]; unfold ba; simp only [al, he, kC h1, gX, Rm]; rfl), ?_⟩
  all_goals first | exact (HB _).out | exact (HB _).out.trans (hb1.mono (by simp)) | exact (HB _).out.trans (hb2.mono (by simp)) | exact ((HB _).out.trans (hb1.mono (by simp))).trans (hb2.mono (by omega)) | exact ((HB _).out.trans (hb2.mono (by simp))).trans (hb3.mono (by omega))) : G := h
theorem Vz (h : G := by
 have HI := aa ih
 have HF := aa hf
 have HR := aa hq
 have HB : ∀ o : Obj, Hid (Below w.heap.size w (w.alloc o)) := fun o => bA
 unfold Nd.val at *
 rw [hk] at *
 subst hv
 clear hf hr hk hq ih
 generalize T.num = tn at *
 generalize T.name = ts at *
 cases he : ts.toList.isEmpty
 ·exact bG4
 cases h1 : (tn != 0)
 first
 |clear k_G14_0
  ·go_enter Tryz.func60, Tryz.ntmps60
   go_wp2
   go_loopg [4] T.len (fun gk i wr => ∃ (j : Nat), gk = T.len - j ∧ j ≤ T.len ∧ i = .int .i64 j ∧ Hid (∀ i, i < j → (T.kids i).sOk = true) ∧ Below (w.heap.size + 1) (w.alloc (.cells #[.int .i64 4, .int .i64 tn, .string ts, .slice a T.len cap] 25)) wr)
   case atStart => exact ⟨0, by omega, by omega, rfl, (fun i hi => by omega), Below.refl _ _⟩
   case round =>
    obtain ⟨j, rP, hj, rfl, bj, hb⟩ := hrel
    have zv := aa rP
    clear rP
    have k3 : wr.cell? ⟨w.heap.size, 3, none⟩ = some (.slice a T.len cap) := by
     exact bG8
    have eJ := (HB (.cells #[.int .i64 4, .int .i64 tn, .string ts, .slice a T.len cap] 25)).out.trans (hb.mono (by omega))
    have vI := eJ.size
    have fC : w.heap.size + 1 ≤ wr.heap.size := by have := hb.size; simpa using this
    by_cases bB : j < T.len
    ·have k_G15_1 := kk
     exact NB
    ·exact bG6
  ·exact bG7
 |clear k_G14_1
  ·go_enter Tryz.func60, Tryz.ntmps60
   go_wp2
   go_loopg [5] T.len (fun gk i wr => ∃ (j : Nat), gk = T.len - j ∧ j ≤ T.len ∧ i = .int .i64 j ∧ Hid (∀ i, i < j → (T.kids i).cOk = true) ∧ Below (w.heap.size + 1) (w.alloc (.cells #[.int .i64 15, .int .i64 tn, .string ts, .slice a T.len cap] 25)) wr)
   case atStart => exact ⟨0, by omega, by omega, rfl, (fun i hi => by omega), Below.refl _ _⟩
   case round =>
    obtain ⟨j, rP, hj, rfl, bj, hb⟩ := hrel
    have zv := aa rP
    clear rP
    have k3 : wr.cell? ⟨w.heap.size, 3, none⟩ = some (.slice a T.len cap) := by
     exact bG8
    have eJ := (HB (.cells #[.int .i64 15, .int .i64 tn, .string ts, .slice a T.len cap] 25)).out.trans (hb.mono (by omega))
    have vI := eJ.size
    have fC : w.heap.size + 1 ≤ wr.heap.size := by have := hb.size; simpa using this
    by_cases bB : j < T.len
    ·have k_G15_2 := kk
     exact NB
    ·exact bG6
  ·exact bG7) : G := h
theorem NB (h : G := by
 rcases HR.out with h0 | ⟨g, off, rfl, g1, g2, g3⟩
 ·omega
 obtain ⟨u, e0, e1, e2, e3, hu⟩ := g3 j bB
 have iW : g < w.heap.size := by omega
 rw [← eJ.cell (p := ⟨g, _, none⟩) iW] at e0 e1 e2 e3
 have HU := aa (ah eJ cY hu)
 have HC := HI.out j bB
 have ye := aa (Nd.fine_kid HF.out bB)
 first
 |clear k_G15_0
  have HN : Hid (cZ (T.kids j) = false → false = dh T) := fun h => by rw [HO.out, fZ bB h]
  have HY : Hid (cZ (T.kids j) = true → ∀ i, i < j + 1 → cZ (T.kids i) = true) := fun h i hi => by
   by_cases e : i = j
   ·subst e; exact h
   ·exact bj.out i (by omega)
  unfold Fw Nd.val at HC
  have qQ := aa HC
  clear g3 HC hu bj
  generalize T.kids j = K at *
  cases hx : cZ K
  all_goals have HX := aa hx
  all_goals clear hx
  all_goals go_wp2_with (go_at_call 30; refine (qQ.out _ _ hi ye.out (by omega) HU.out).mono ?_; rw [HX.out]; rintro e w1 ⟨rfl, hb1⟩)
  ·exact bG9
  ·exact bG5
 |clear k_G15_1
  have HN : Hid ((T.kids j).sOk = false → false = T.sOk) := fun h => by rw [fb.out, fZ bB h]; simp
  have HY : Hid ((T.kids j).sOk = true → ∀ i, i < j + 1 → (T.kids i).sOk = true) := fun h i hi => by
   by_cases e : i = j
   ·subst e; exact h
   ·exact bj.out i (by omega)
  unfold eN Nd.val at HC
  have qQ := aa HC
  clear g3 HC hu bj
  generalize T.kids j = K at *
  have k_G19_1 := kk
  exact Vv
 |clear k_G15_2
  have HN : Hid ((T.kids j).cOk = false → false = T.sOk) := fun h => by rw [fb.out, fZ bB h]; simp
  have HY : Hid ((T.kids j).cOk = true → ∀ i, i < j + 1 → (T.kids i).cOk = true) := fun h i hi => by
   by_cases e : i = j
   ·subst e; exact h
   ·exact bj.out i (by omega)
  unfold sx Nd.val at HC
  have qQ := aa HC
  clear g3 HC hu bj
  generalize T.kids j = K at *
  cases hx : K.cOk
  all_goals have HX := aa hx
  all_goals clear hx
  all_goals go_wp2_with (go_at_call 83; refine (qQ.out _ _ hi ye.out (by omega) HU.out).mono ?_; rw [HX.out]; rintro e w1 ⟨rfl, hb1⟩)
  ·exact bG9
  ·exact bG5) : G := h
theorem Vy (h : G := by
 go_enter Tryz.func30, Tryz.ntmps30
 go_wp2_with (go_at_call 59; refine (gS _ _ HS.out).mono ?_; rw [dc]; rintro e w1 ⟨rfl, hb1⟩; have eZ := hb1.size; simp only [World.size_alloc] at eZ; obtain ⟨ed, qJ⟩ := eG hb1)
 first
 |clear k_G16_0
  have xu := hb1
  simp only [World.size_alloc] at xu
  clear hb1 ed qJ eZ dc h0 h3
  go_loopg [4] T.len (fun gk i wr => ∃ (j : Nat), gk = T.len - j ∧ j ≤ T.len - 1 ∧ i = .int .i64 j ∧ Hid (∀ i, i < j → fF (T.kids i) = true) ∧ Below (w.heap.size + 1) (w.alloc (.cells #[.int .i64 2, .int .i64 tn, .string ts, .slice a T.len cap] 25)) wr)
  case atStart => exact ⟨0, by omega, by omega, rfl, (fun i hi => by omega), xu⟩
  case round =>
   obtain ⟨j, rP, hj, rfl, bj, hb⟩ := hrel
   have zv := aa rP
   clear rP xu
   have k3 : wr.cell? ⟨w.heap.size, 3, none⟩ = some (.slice a T.len cap) := by
    exact bG8
   have eJ := (HB (.cells #[.int .i64 2, .int .i64 tn, .string ts, .slice a T.len cap] 25)).out.trans (hb.mono (by omega))
   have vI := eJ.size
   have fC : w.heap.size + 1 ≤ wr.heap.size := by have := hb.size; simpa using this
   have rO : j < T.len := by omega
   rcases HR.out with h0 | ⟨g, off, rfl, g1, g2, g3⟩
   ·omega
   obtain ⟨u, e0, e1, e2, e3, hu⟩ := g3 j rO
   have iW : g < w.heap.size := by omega
   rw [← eJ.cell (p := ⟨g, _, none⟩) iW] at e0 e1 e2 e3
   by_cases bB : j < T.len - 1
   ·have hlt' : (j : Int) < (T.len : Int) - 1 := by omega
    obtain ⟨au, cu, rfl, _⟩ := ar.1 hu
    have uL := Nd.fine_name (Nd.fine_kid HF.out rO)
    have HSJ : Hid ((T.kids j).name.size ≤ maxLen) := by unfold Hid maxLen; exact uL
    have HN : Hid (fF (T.kids j) = false → false = cZ T) := fun h => by rw [HO.out, fZ bB h]; simp
    have HY : Hid (fF (T.kids j) = true → ∀ i, i < j + 1 → fF (T.kids i) = true) := fun h i hi => by
     by_cases e : i = j
     ·subst e; exact h
     ·exact bj.out i (by omega)
    have BS : Hid (fF (T.kids j) = (decide ((T.kids j).kind = 3) && aR (T.kids j).name && (decide (1 ≤ (T.kids j).num) && decide ((T.kids j).num ≤ 3)) && decide ((T.kids j).len = 0))) := rfl
    have hbN : ∀ o : Obj, Hid (Below wr.heap.size wr (wr.alloc o)) := fun o => bA
    clear g3 hu bj uL
    generalize fF (T.kids j) = pb at *
    generalize T.kids j = P at *
    generalize P.kind = pk at *
    generalize P.num = pn at *
    generalize P.name = ps at *
    by_cases hk : pk = 3
    case neg =>
     have m1 : (pk != 3) = true := by rw [bne_iff_ne]; exact hk
     have FQ : Hid (pb = false) := by unfold Hid; rw [BS.out]; simp [hk]
     clear hk
     go_wp2
     go_ret
     exact ⟨ao (HN.out FQ.out), eJ.trans ((hbN _).out.mono vI)⟩
    subst hk
    cases dc : aR ps
    ·have FQ : Hid (pb = false) := by unfold Hid; rw [BS.out, dc]; simp
     exact bG3
    by_cases h0 : pn < 1
    ·exact bG1
    by_cases h3 : 3 < pn
    ·exact bG1
    cases D2 : ((P.len : Int) != 0)
    ·have FQ : Hid (pb = true) := by
      unfold Hid; rw [BS.out, dc]
      have q1 : 1 ≤ pn := by omega
      have q2 : pn ≤ 3 := by omega
      have q3 : P.len = 0 := by have : (P.len : Int) = 0 := (by simpa using D2); omega
      simp [q1, q2, q3]
     have k_G20_1 := kk
     exact Vu
    ·have FQ : Hid (pb = false) := by
      unfold Hid; rw [BS.out]
      have q3 : ¬ P.len = 0 := by
       intro h; rw [h] at D2; simp at D2
      simp [q3]
     exact bG3
   ·obtain rfl : j = T.len - 1 := by omega
    have kx : ((T.len - 1 : Nat) : Int) = (T.len : Int) - 1 := by omega
    have zy : Hid (aE (fun i => fF (T.kids i)) (T.len - 1) = true) := eE bj.out
    have HU := aa (ah eJ cY hu)
    have HC := HI.out (T.len - 1) rO
    have ye := aa (Nd.fine_kid HF.out rO)
    have hoff : off + (T.len - 1) * 4 = off + (T.len - 1) * 4 := rfl
    unfold eN Nd.val at HC
    have qQ := aa HC
    have O5 : Hid (cZ T = (decide ((T.kids (T.len - 1)).kind = 4) && (T.kids (T.len - 1)).sOk)) := by unfold Hid; rw [HO.out, zy.out, Bool.true_and]
    clear g3 hu bj HC HO zy hoff
    generalize T.kids (T.len - 1) = K at *
    rw [kx] at *
    by_cases hk : K.kind = 4
    ·have Ei : (K.kind == 4) = true := beq_iff_eq.2 hk
     replace O5 : Hid (cZ T = K.sOk) := by have := O5.out; simpa [hk, Hid] using this
     clear hk
     have k_G19_0 := kk
     exact Vv
    ·have Ei : (K.kind == 4) = false := bn hk
     replace O5 : Hid (cZ T = false) := by have := O5.out; simpa [hk, Hid] using this
     clear hk
     go_wp2
     go_ret
     exact ⟨ao O5.out.symm, eJ⟩
 |clear k_G16_1
  exact NC) : G := h
theorem Vx (h : G := by
 go_enter Tryz.func17, Tryz.ntmps17
 go_wp2_with (go_at_call 29; refine (HL.out _ (HB _).out).mono ?_; rw [hl]; rintro e w1 ⟨rfl, hb1⟩; have eZ := hb1.size; simp only [World.size_alloc] at eZ; obtain ⟨ed, qJ⟩ := eG hb1)
 first
 |clear k_G17_0
  have xu := hb1
  simp only [World.size_alloc] at xu
  clear hb1 ed qJ eZ he hl HL
  go_loopg [3] T.len (fun gk i wr => ∃ (j : Nat), gk = T.len - j ∧ j ≤ T.len ∧ i = .int .i64 j ∧ Hid (∀ i, i < j → cZ (T.kids i) = true) ∧ Below (w.heap.size + 1) (w.alloc (.cells #[.int .i64 1, .int .i64 0, .string ts, .slice a T.len cap] 25)) wr)
  case atStart => exact ⟨0, by omega, by omega, rfl, (fun i hi => by omega), xu⟩
  case round =>
   obtain ⟨j, rP, hj, rfl, bj, hb⟩ := hrel
   have zv := aa rP
   clear rP xu
   have k3 : wr.cell? ⟨w.heap.size, 3, none⟩ = some (.slice a T.len cap) := by
    exact bG8
   have eJ := (HB (.cells #[.int .i64 1, .int .i64 0, .string ts, .slice a T.len cap] 25)).out.trans (hb.mono (by omega))
   have vI := eJ.size
   have fC : w.heap.size + 1 ≤ wr.heap.size := by have := hb.size; simpa using this
   by_cases bB : j < T.len
   ·have k_G15_0 := kk
    exact NB
   ·obtain rfl : j = T.len := by omega
    go_wp2
    go_ret
    exact ⟨ao (by rw [HO.out, eE bj.out]), eJ⟩
 |clear k_G17_1
  exact NC) : G := h
theorem Vw (h : G := by
 unfold Nd.val at *
 subst hv
 clear hf hr hq dr
 generalize T.kind = tk at *
 generalize T.num = tn at *
 generalize T.name = ts at *
 cases he : ts.toList.isEmpty
 all_goals cases h1 : (tn != 0)
 first
 |clear k_G18_0
  all_goals go_enter Tryz.func60, Tryz.ntmps60
  all_goals go_wp2
  all_goals go_ret
  all_goals exact ⟨ao fb.out.symm, (HB _).out⟩
 |clear k_G18_1
  all_goals go_enter Tryz.func103, Tryz.ntmps103
  all_goals go_wp2
  all_goals go_ret
  all_goals exact ⟨ao fb.out.symm, (HB _).out⟩) : G := h
theorem Vv (h : G := by
 cases hx : K.sOk
 all_goals have HX := aa hx
 all_goals clear hx
 all_goals go_wp2_with (go_at_call 60; refine (qQ.out _ _ hi ye.out (by omega) HU.out).mono ?_; rw [HX.out]; rintro e w1 ⟨rfl, hb1⟩)
 first
 |clear k_G19_0
  all_goals go_ret
  all_goals exact ⟨ao (by rw [O5.out, HX.out]), eJ.trans (hb1.mono vI)⟩
 |clear k_G19_1
  ·exact bG9
  ·exact bG5) : G := h
theorem Vu (h : G := by
 go_wp2_with (go_at_call 59; refine (gS _ _ HSJ.out).mono ?_; rw [dc]; rintro e w1 ⟨rfl, hb1⟩; have eZ := hb1.size; simp only [World.size_alloc] at eZ; obtain ⟨ed, qJ⟩ := eG hb1)
 first
 |clear k_G20_0
  go_ret
  exact ⟨ao (HN.out FQ.out), eJ.trans ((((hbN _).out.trans (hb1.mono (by simp)))).mono vI)⟩
 |clear k_G20_1
  go_roundg (T.len - (j + 1))
  case rel => exact ⟨j + 1, rfl, by omega, by go_num, HY.out FQ.out, hb.trans ((((hbN _).out.trans (hb1.mono (by simp)))).mono fC)⟩
  case measure => have := zv.out; omega) : G := h
theorem Vt (h : G := by
 intro w v hi hf cY hr
 have hn := T.fine_len hf
 have hs := T.fine_name hf
 obtain ⟨a, cap, hv, b7, hq⟩ := ar.1 hr
 have HB : ∀ o : Obj, Hid (Below w.heap.size w (w.alloc o)) := fun o => bA
 first
 |clear k_G21_0
  have HK := aa (fun W (hb : Below w.heap.size w W) bD => hK W v hi bD hf (by have := hb.size; omega) (ah hb cY hr))
  have HS : Hid (T.name.size ≤ maxLen) := by unfold Hid maxLen; exact hs
  by_cases hk : T.kind = 16
  ·have fb : Hid (T.cOk = iz 16 T.num T.name T.len (fun i => (T.kids i).eOk) (fun i => (T.kids i).sOk) T.kk) := by have := mO T; rw [hk] at this; exact this
   unfold Nd.val at HK ⊢
   rw [hk] at HK ⊢
   subst hv
   clear hf hr hK hs hk hq b7
   generalize T.num = tn at *
   generalize T.name = ts at *
   by_cases c0 : tn = 0
   ·subst c0
    cases he : ts.toList.isEmpty
    all_goals cases gX : aK (fun i => (T.kids i).eOk) (fun i => (T.kids i).sOk) T.kk T.len ⟨#[98]⟩
    all_goals go_enter Tryz.func83, Tryz.ntmps83
    all_goals go_wp2_with ((go_at_call 82; refine (HK.out _ (by first | exact (HB _).out | exact (HB _).out.trans (hb1.mono (by simp)) | exact (HB _).out.trans (hb2.mono (by simp))) ⟨#[98]⟩ (by decide)).mono ?_; rw [gX]; rintro e w2 ⟨rfl, hb2⟩; have ec := hb2.size; (try simp only [World.size_alloc] at ec); obtain ⟨iy, sW⟩ := eG hb2))
    all_goals go_ret
    all_goals refine ⟨ao (by rw [fb.out]; unfold iz; simp only [al, he, gX]; rfl), ?_⟩
    all_goals first | exact (HB _).out | exact (HB _).out.trans (hb2.mono (by simp))
   by_cases c1 : tn = 1
   ·subst c1
    cases he : ts.toList.isEmpty
    all_goals cases dc : aR ts
    all_goals cases gX : aK (fun i => (T.kids i).eOk) (fun i => (T.kids i).sOk) T.kk T.len ⟨#[101, 98]⟩
    all_goals go_enter Tryz.func83, Tryz.ntmps83
    all_goals go_wp2_with (first | (go_at_call 59; refine (gS _ _ HS.out).mono ?_; rw [dc]; rintro e w1 ⟨rfl, hb1⟩; have eZ := hb1.size; simp only [World.size_alloc] at eZ; obtain ⟨ed, qJ⟩ := eG hb1) | (go_at_call 82; refine (HK.out _ (by first | exact (HB _).out | exact (HB _).out.trans (hb1.mono (by simp)) | exact (HB _).out.trans (hb2.mono (by simp))) ⟨#[101, 98]⟩ (by decide)).mono ?_; rw [gX]; rintro e w2 ⟨rfl, hb2⟩; have ec := hb2.size; (try simp only [World.size_alloc] at ec); obtain ⟨iy, sW⟩ := eG hb2))
    all_goals go_ret
    all_goals refine ⟨ao (by rw [fb.out]; unfold iz; simp only [al, he, dc, gX]; rfl), ?_⟩
    all_goals first | exact (HB _).out | exact (HB _).out.trans (hb1.mono (by simp)) | exact (HB _).out.trans (hb2.mono (by simp)) | exact ((HB _).out.trans (hb1.mono (by simp))).trans (hb2.mono (by omega))
   by_cases c2 : tn = 2
   ·subst c2
    cases he : ts.toList.isEmpty
    all_goals cases gX : aK (fun i => (T.kids i).eOk) (fun i => (T.kids i).sOk) T.kk T.len ⟨#[101, 101, 98]⟩
    all_goals go_enter Tryz.func83, Tryz.ntmps83
    all_goals go_wp2_with ((go_at_call 82; refine (HK.out _ (by first | exact (HB _).out | exact (HB _).out.trans (hb1.mono (by simp)) | exact (HB _).out.trans (hb2.mono (by simp))) ⟨#[101, 101, 98]⟩ (by decide)).mono ?_; rw [gX]; rintro e w2 ⟨rfl, hb2⟩; have ec := hb2.size; (try simp only [World.size_alloc] at ec); obtain ⟨iy, sW⟩ := eG hb2))
    all_goals go_ret
    all_goals refine ⟨ao (by rw [fb.out]; unfold iz; simp only [al, he, gX]; rfl), ?_⟩
    all_goals first | exact (HB _).out | exact (HB _).out.trans (hb2.mono (by simp))
   ·have HF : Hid (T.cOk = false) := by unfold Hid; rw [fb.out]; unfold iz; rw [if_pos rfl, if_neg c0, if_neg c1, if_neg c2, Bool.and_false]
    have n0 : (tn == 0) = false := bn c0
    have n1 : (tn == 1) = false := bn c1
    have n2 : (tn == 2) = false := bn c2
    have m1 : (tn != 1) = true := by rw [bne_iff_ne]; exact c1
    clear c0 c1 c2
    cases he : ts.toList.isEmpty
    all_goals go_enter Tryz.func83, Tryz.ntmps83
    all_goals go_wp2
    all_goals go_ret
    all_goals exact ⟨ao HF.out.symm, (HB _).out⟩
  ·have HF := aa (ET T hk)
   have m1 : (T.kind != 16) = true := by rw [bne_iff_ne]; exact hk
   unfold Nd.val at *
   subst hv
   clear hf hr hK hs hk hq b7
   generalize T.kind = tk at *
   generalize T.num = tn at *
   generalize T.name = ts at *
   go_enter Tryz.func83, Tryz.ntmps83
   go_wp2
   go_ret
   exact ⟨ao HF.out.symm, (HB _).out⟩
 |clear k_G21_1
  have HS : Hid (T.name.size ≤ maxLen) := by unfold Hid maxLen; exact hs
  have fb : Hid (cZ T = (decide (T.kind = 2) && aR T.name && (decide (0 ≤ T.num) && decide (T.num ≤ 3)) && decide (1 ≤ T.len) && (aE (fun i => fF (T.kids i)) (T.len - 1) && (decide ((T.kids (T.len - 1)).kind = 4) && (T.kids (T.len - 1)).sOk)))) := rfl
  have HI := aa ih
  have HF := aa hf
  have HR := aa hq
  unfold Nd.val at *
  subst hv
  clear hf hr hs hq b7 ih
  generalize T.kind = tk at *
  generalize T.num = tn at *
  generalize T.name = ts at *
  by_cases hk : tk = 2
  case neg =>
   have m1 : (tk != 2) = true := by rw [bne_iff_ne]; exact hk
   have HO : Hid (cZ T = false) := by unfold Hid; rw [fb.out]; simp [hk]
   clear hk
   go_enter Tryz.func30, Tryz.ntmps30
   go_wp2
   go_ret
   exact ⟨ao HO.out.symm, (HB _).out⟩
  subst hk
  cases dc : aR ts
  ·have HO : Hid (cZ T = false) := by unfold Hid; rw [fb.out, dc]; simp
   exact VC
  by_cases h0 : tn < 0
  ·exact bG0
  by_cases h3 : 3 < tn
  ·exact bG0
  by_cases hl : T.len < 1
  ·exact bG0
  have HO : Hid (cZ T = (aE (fun i => fF (T.kids i)) (T.len - 1) && (decide ((T.kids (T.len - 1)).kind = 4) && (T.kids (T.len - 1)).sOk))) := by
   unfold Hid; rw [fb.out, dc]
   have q1 : 0 ≤ tn := by omega
   have q2 : tn ≤ 3 := by omega
   have q3 : 1 ≤ T.len := by omega
   simp [q1, q2, q3]
  clear fb
  have vE : (1 : Int) ≤ (T.len : Int) := by omega
  have k_G16_0 := kk
  exact Vy) : G := h
theorem GU (T : Nd) (hk : T.kind = 10) (hE : dX T) (hK : e8 T) : eN T := by
 intro w v hi hf cY hr
 have hn := T.fine_len hf
 have hs := T.fine_name hf
 obtain ⟨a, cap, hv, _, hq⟩ := ar.1 hr
 have fb : Hid (T.sOk = ba 10 T.num T.name T.len (fun i => (T.kids i).eOk) (fun i => (T.kids i).sOk) (fun i => (T.kids i).cOk) T.kk) := by have := bH T; rw [hk] at this; exact this
 have k_G13_0 := kk
 exact VA
theorem GR (T : Nd) (hk : T.kind = 11) (hE : dX T) (hK : e8 T) : eN T := by
 intro w v hi hf cY hr
 have hn := T.fine_len hf
 have hs := T.fine_name hf
 obtain ⟨a, cap, hv, _, hq⟩ := ar.1 hr
 have fb : Hid (T.sOk = ba 11 T.num T.name T.len (fun i => (T.kids i).eOk) (fun i => (T.kids i).sOk) (fun i => (T.kids i).cOk) T.kk) := by have := bH T; rw [hk] at this; exact this
 have k_G13_1 := kk
 exact VA
theorem sJ {e st : Nat → Bool} {kk : Nat → Int} {len : Nat} (h : aK e st kk len ⟨#[101]⟩ = true) : len = 1 := by
 unfold aK at h
 simp only [Bool.and_eq_true, decide_eq_true_eq] at h
 exact h.1
theorem La (T : Nd) (hk : T.kind = 9) (hK : e8 T) : eN T := by
 intro w v hi hf cY hr
 have hn := T.fine_len hf
 obtain ⟨a, cap, hv, _, hq⟩ := ar.1 hr
 have fb : Hid (T.sOk = ba 9 T.num T.name T.len (fun i => (T.kids i).eOk) (fun i => (T.kids i).sOk) (fun i => (T.kids i).cOk) T.kk) := by have := bH T; rw [hk] at this; exact this
 have HK := aa (fun W (hb : Below w.heap.size w W) bD => hK W v hi bD hf (by have := hb.size; omega) (ah hb cY hr))
 have HQ := aa hq
 have HB : ∀ o : Obj, Hid (Below w.heap.size w (w.alloc o)) := fun o => bA
 unfold Nd.val at *
 rw [hk] at *
 subst hv
 clear hf hr hK hk hq
 generalize T.num = tn at *
 generalize T.name = ts at *
 have Kg : T.kk 0 = (T.kids 0).kind := rfl
 cases gX : aK (fun i => (T.kids i).eOk) (fun i => (T.kids i).sOk) T.kk T.len ⟨#[101]⟩
 ·clear Kg
  cases he : ts.toList.isEmpty
  all_goals cases h1 : (tn != 0)
  all_goals go_enter Tryz.func60, Tryz.ntmps60
  all_goals go_wp2_with (go_at_call 82; refine (HK.out _ (HB _).out ⟨#[101]⟩ (by decide)).mono ?_; rw [gX]; rintro e w2 ⟨rfl, hb2⟩; have ec := hb2.size; simp only [World.size_alloc] at ec; obtain ⟨iy, sW⟩ := eG hb2)
  all_goals go_ret
  all_goals refine ⟨ao (by rw [fb.out]; unfold ba; simp only [al, he, kC h1, gX]; rfl), ?_⟩
  all_goals first | exact (HB _).out | exact (HB _).out.trans (hb2.mono (by simp))
 ·have vE := sJ gX
  rcases HQ.out with h0 | ⟨g, off, rfl, g1, g2, g3⟩
  ·omega
  obtain ⟨u, e0, _⟩ := g3 0 (by omega)
  simp only [Nat.zero_mul, Nat.add_zero] at e0
  rw [← Kg] at e0
  have HE0 := aa e0
  have bB : (0 : Int) < (T.len : Int) := by omega
  clear Kg vE e0 g3
  generalize BK : T.kk 0 = k0 at *
  have O7 := aa BK
  clear BK
  cases he : ts.toList.isEmpty
  all_goals cases h1 : (tn != 0)
  all_goals cases h2 : (k0 == 25)
  all_goals cases h3 : (k0 == 29)
  all_goals go_enter Tryz.func60, Tryz.ntmps60
  all_goals go_wp2_with (go_at_call 82; refine (HK.out _ (HB _).out ⟨#[101]⟩ (by decide)).mono ?_; rw [gX]; rintro e w2 ⟨rfl, hb2⟩; have ec := hb2.size; simp only [World.size_alloc] at ec; obtain ⟨iy, sW⟩ := eG hb2; have q0 := (((HB _).out.trans (hb2.mono (by simp))).cell (p := ⟨g, off, none⟩) (by show g < _; omega)).trans HE0.out)
  all_goals go_ret
  all_goals refine ⟨ao (by rw [fb.out]; unfold ba; simp only [al, he, kC h1, gX, O7.out, pI h2, pI h3]; rfl), ?_⟩
  all_goals first | exact (HB _).out | exact (HB _).out.trans (hb2.mono (by simp))
theorem Lf (T : Nd) (hk : T.kind = 4) (ih : ∀ i, i < T.len → eN (T.kids i)) : eN T := by
 intro w v hi hf cY hr
 have hn := T.fine_len hf
 obtain ⟨a, cap, hv, _, hq⟩ := ar.1 hr
 have fb : Hid (T.sOk = (al T.name && decide (T.num = 0) && aE (fun i => (T.kids i).sOk) T.len)) := by have := bH T; rw [hk] at this; exact this
 have k_G14_0 := kk
 exact Vz
theorem GN (T : Nd) (hk : T.kind = 15) (ih : ∀ i, i < T.len → sx (T.kids i)) : eN T := by
 intro w v hi hf cY hr
 have hn := T.fine_len hf
 obtain ⟨a, cap, hv, _, hq⟩ := ar.1 hr
 have fb : Hid (T.sOk = (al T.name && decide (T.num = 0) && aE (fun i => (T.kids i).cOk) T.len)) := by have := bH T; rw [hk] at this; exact this
 have k_G14_1 := kk
 exact Vz
theorem xH (T : Nd) (dr : ∀ k : Int, k ∈ [22, 23, 24, 25, 26, 27, 28, 29] → T.kind ≠ k) : iD T := by
 intro w v hi hf cY hr
 have hs := T.fine_name hf
 obtain ⟨a, cap, hv, _, hq⟩ := ar.1 hr
 have fb : Hid (T.eOk = false) := by
  unfold Hid; rw [dd T]; unfold cw
  simp only [List.mem_cons, List.not_mem_nil, or_false, forall_eq_or_imp, forall_eq] at dr
  simp only [dr, if_false]
 have HB : ∀ o : Obj, Hid (Below w.heap.size w (w.alloc o)) := fun o => bA
 have n22 : (T.kind == 22) = false := bn (dr 22 (by simp))
 have n23 : (T.kind == 23) = false := bn (dr 23 (by simp))
 have n24 : (T.kind == 24) = false := bn (dr 24 (by simp))
 have n25 : (T.kind == 25) = false := bn (dr 25 (by simp))
 have n26 : (T.kind == 26) = false := bn (dr 26 (by simp))
 have n27 : (T.kind == 27) = false := bn (dr 27 (by simp))
 have n28 : (T.kind == 28) = false := bn (dr 28 (by simp))
 have n29 : (T.kind == 29) = false := bn (dr 29 (by simp))
 have m22 : (T.kind != 22) = true := by rw [bne_iff_ne]; exact dr 22 (by simp)
 have m23 : (T.kind != 23) = true := by rw [bne_iff_ne]; exact dr 23 (by simp)
 have k_G18_1 := kk
 exact Vw
theorem vT (T : Nd) (dr : ∀ k : Int, k ∈ [4, 5, 6, 7, 8, 9, 10, 11, 12, 13, 14, 15, 17, 18, 19, 20, 21] → T.kind ≠ k) : eN T := by
 intro w v hi hf cY hr
 have hs := T.fine_name hf
 obtain ⟨a, cap, hv, _, hq⟩ := ar.1 hr
 have fb : Hid (T.sOk = false) := by
  unfold Hid; rw [bH T]; unfold ba
  simp only [List.mem_cons, List.not_mem_nil, or_false, forall_eq_or_imp, forall_eq] at dr
  simp only [dr, or_self, if_false]
 have HB : ∀ o : Obj, Hid (Below w.heap.size w (w.alloc o)) := fun o => bA
 have n4 : (T.kind == 4) = false := bn (dr 4 (by simp))
 have n5 : (T.kind == 5) = false := bn (dr 5 (by simp))
 have n6 : (T.kind == 6) = false := bn (dr 6 (by simp))
 have n7 : (T.kind == 7) = false := bn (dr 7 (by simp))
 have n8 : (T.kind == 8) = false := bn (dr 8 (by simp))
 have n9 : (T.kind == 9) = false := bn (dr 9 (by simp))
 have n10 : (T.kind == 10) = false := bn (dr 10 (by simp))
 have n11 : (T.kind == 11) = false := bn (dr 11 (by simp))
 have n12 : (T.kind == 12) = false := bn (dr 12 (by simp))
 have n13 : (T.kind == 13) = false := bn (dr 13 (by simp))
 have n14 : (T.kind == 14) = false := bn (dr 14 (by simp))
 have n15 : (T.kind == 15) = false := bn (dr 15 (by simp))
 have n17 : (T.kind == 17) = false := bn (dr 17 (by simp))
 have n18 : (T.kind == 18) = false := bn (dr 18 (by simp))
 have n19 : (T.kind == 19) = false := bn (dr 19 (by simp))
 have n20 : (T.kind == 20) = false := bn (dr 20 (by simp))
 have n21 : (T.kind == 21) = false := bn (dr 21 (by simp))
 have m7 : (T.kind != 7) = true := by rw [bne_iff_ne]; exact dr 7 (by simp)
 have k_G18_0 := kk
 exact Vw
theorem ET (T : Nd) (h : T.kind ≠ 16) : T.cOk = false := by rw [mO]; unfold iz; rw [if_neg h]
theorem EU (T : Nd) (hK : e8 T) : sx T := by
 have k_G21_0 := kk
 exact Vt
def Fw (T : Nd) : Prop := ∀ (w : World) (v : Value) (hi : Nat), T.Fine → hi ≤ w.heap.size → Row 0 hi w T v →
 Calls Tryz.prog 30 #[T.val v] w fun e w' => e = .returned (.bool (cZ T)) ∧ Below w.heap.size w w'
theorem Ez (T : Nd) (ih : ∀ i, i < T.len → eN (T.kids i)) : Fw T := by
 have k_G21_1 := kk
 exact Vt
theorem Lu (T : Nd) : iD T ∧ eN T ∧ sx T := by
 have step : ∀ T : Nd, (∀ i, i < T.len → iD (T.kids i) ∧ eN (T.kids i) ∧ sx (T.kids i)) → iD T ∧ eN T ∧ sx T := by
  intro T ih
  have hE := EE T fun i hi => (ih i hi).1
  have hK := Hi T fun i hi => ⟨(ih i hi).1, (ih i hi).2.1⟩
  refine ⟨?_, ?_, EU T hK⟩
  ·by_cases Im : T.kind = 22
   ·exact IA T Im hE hK
   by_cases Bc : T.kind = 23
   ·exact Iz T Bc hE hK
   by_cases Il : T.kind = 24
   ·exact Iy T Il hE hK
   by_cases FJ : T.kind = 25
   ·exact Iw T FJ hE hK
   by_cases Ex : T.kind = 26
   ·exact Iv T Ex hE hK
   by_cases Ik : T.kind = 27
   ·exact Iu T Ik hE hK
   by_cases Ku : T.kind = 28
   ·exact It T Ku hE hK
   by_cases BP : T.kind = 29
   ·exact Is T BP hE hK
   exact xH T fun k hk => by
    simp only [List.mem_cons, List.not_mem_nil, or_false] at hk
    rcases hk with rfl | rfl | rfl | rfl | rfl | rfl | rfl | rfl <;> assumption
  ·by_cases h4 : T.kind = 4
   ·exact Lf T h4 fun i hi => (ih i hi).2.1
   by_cases h9 : T.kind = 9
   ·exact La T h9 hK
   by_cases rU : T.kind = 15
   ·exact GN T rU fun i hi => (ih i hi).2.2
   by_cases h5 : T.kind = 5
   ·exact Le T h5 hE hK
   by_cases h6 : T.kind = 6
   ·exact Ld T h6 hE hK
   by_cases h7 : T.kind = 7
   ·exact Lc T h7 hE hK
   by_cases h8 : T.kind = 8
   ·exact Lb T h8 hE hK
   by_cases rW : T.kind = 10
   ·exact GU T rW hE hK
   by_cases mS : T.kind = 11
   ·exact GR T mS hE hK
   by_cases rV : T.kind = 12
   ·exact GQ T rV hE hK
   by_cases OO : T.kind = 13
   ·exact GP T OO hE hK
   by_cases ON : T.kind = 14
   ·exact GO T ON hE hK
   by_cases qK : T.kind = 17
   ·exact GM T qK hE hK
   by_cases Ky : T.kind = 18
   ·exact GL T Ky hE hK
   by_cases Kx : T.kind = 19
   ·exact GK T Kx hE hK
   by_cases Kv : T.kind = 20
   ·exact GJ T Kv hE hK
   by_cases xy : T.kind = 21
   ·exact GI T xy hE hK
   exact vT T fun k hk => by
    simp only [List.mem_cons, List.not_mem_nil, or_false] at hk
    rcases hk with rfl | rfl | rfl | rfl | rfl | rfl | rfl | rfl | rfl | rfl | rfl | rfl | rfl | rfl | rfl | rfl | rfl <;> assumption
 induction T with
 |nil => exact step _ fun i hi => absurd hi (Nat.not_lt_zero i)
 |mk k n s len kids ih => exact step _ fun i _ => ih i
theorem Au (T : Nd) (w : World) (v : Value) (hi : Nat) (hf : T.Fine) (cY : hi ≤ w.heap.size) (hr : Row 0 hi w T v) :
  Calls Tryz.prog 17 #[T.val v] w fun e w' => e = .returned (.bool (dh T)) ∧ Below w.heap.size w w' := by
 have hn := T.fine_len hf
 obtain ⟨a, cap, hv, b7, hq⟩ := ar.1 hr
 have HB : ∀ o : Obj, Hid (Below w.heap.size w (w.alloc o)) := fun o => bA
 have HL := aa (fun W (hb : Below w.heap.size w W) => uh T W 600 v hi hf (by have := hb.size; omega) (ah hb cY hr) (by omega))
 have fb : Hid (dh T = (decide (T.size ≤ 600) && decide (T.kind = 1) && decide (T.num = 0) && al T.name && aE (fun i => cZ (T.kids i)) T.len)) := rfl
 have HI : Hid (∀ i, i < T.len → Fw (T.kids i)) := fun i hi => Ez _ fun j _ => (Lu _).2.1
 have HF := aa hf
 have HR := aa hq
 have zo : Hid (mb T.size 600 = if T.size ≤ 600 then ((600 - T.size : Nat) : Int) else -1) := rfl
 unfold Nd.val at *
 subst hv
 clear hf hr hq b7
 generalize T.kind = tk at *
 generalize T.num = tn at *
 generalize T.name = ts at *
 by_cases hz : T.size ≤ 600
 case neg =>
  have HO : Hid (dh T = false) := by unfold Hid; rw [fb.out]; simp [hz]
  have hl : mb T.size 600 = -1 := by have := zo.out; rw [if_neg hz] at this; exact this
  go_enter Tryz.func17, Tryz.ntmps17
  go_wp2_with (go_at_call 29; refine (HL.out _ (HB _).out).mono ?_; rw [hl]; rintro e w1 ⟨rfl, hb1⟩)
  exact NC
 have hl : mb T.size 600 = ((600 - T.size : Nat) : Int) := by have := zo.out; rw [if_pos hz] at this; exact this
 have H5 : ¬ (((600 - T.size : Nat) : Int) < 0) := by omega
 by_cases yT : tk = 1 ∧ tn = 0 ∧ ts.toList.isEmpty = true
 case neg =>
  have HO : Hid (dh T = false) := by
   unfold Hid; rw [fb.out]
   cases h1 : decide (tk = 1)
   ·simp
   cases h2 : decide (tn = 0)
   ·simp
   cases h3 : ts.toList.isEmpty
   ·simp [al, h3]
   ·exact absurd ⟨of_decide_eq_true h1, of_decide_eq_true h2, h3⟩ yT
  have HG : Hid ((tk != 1) = false → (tn != 0) = false → ts.toList.isEmpty = true → False) := fun h1 h2 h3 => yT ⟨by simpa using h1, by simpa using h2, h3⟩
  clear yT zo fb
  cases h1 : (tk != 1)
  ·cases h2 : (tn != 0)
   ·cases h3 : ts.toList.isEmpty
    ·exact bG2
    ·exact (HG.out h1 h2 h3).elim
   ·exact bG2
  ·exact bG2
 obtain ⟨rfl, rfl, he⟩ := yT
 have HO : Hid (dh T = aE (fun i => cZ (T.kids i)) T.len) := by unfold Hid; rw [fb.out]; simp [hz, al, he]
 clear fb zo hz
 have k_G17_0 := kk
 exact Vx
end Go.Proofs.YteaocammohcgoaaGreatDoor
