import Derived.Test.YteaocammohcgoaaGreatDoorQKbA
set_option linter.unusedVariables false
set_option maxHeartbeats 16000000
set_option maxRecDepth 100000
namespace Go.Proofs.YteaocammohcgoaaGreatDoor
open Go.RowKit
variable {G : Prop}
theorem bE0 (h : G := by
 have k_0 := kk
 exact bE4) : G := h
theorem bE1 (h : G := by
 have k_0 := kk
 exact bE5) : G := h
theorem bE2 (h : G := by
 have k_1 := kk
 exact bE4) : G := h
theorem bE3 (h : G := by
 have k_1 := kk
 exact bE5) : G := h
theorem bE4 (h : G := by
 have k_0 := kk
 exact bE6) : G := h
theorem bE5 (h : G := by
 have k_1 := kk
 exact bE6) : G := h
theorem bE6 (h : G := by
 have HE := aa (fun W (hb : Below w.heap.size w W) => hE W v hi hf (by have := hb.size; omega) (ah hb cY hr))
 have HK := aa (fun W (hb : Below w.heap.size w W) bD => hK W v hi bD hf (by have := hb.size; omega) (ah hb cY hr))
 have HQ := aa hq
 have HS : Hid (T.name.size ≤ maxLen) := by unfold Hid maxLen; exact hs
 have HB : ∀ o : Obj, Hid (Below w.heap.size w (w.alloc o)) := fun o => bA
 unfold Nd.val at *
 rw [hk] at *
 subst hv
 clear hf hr hE hK hs hk hq
 generalize T.num = tn at *
 generalize T.name = ts at *
 first
 |clear k_0
  cases he : ts.toList.isEmpty
  first
  |clear k_0
   all_goals cases h1 : (tn != 0)
   first
   |clear k_0
    all_goals cases h2 : decide ((T.len : Int) < 2)
    all_goals cases Sb : aE (fun i => (T.kids i).eOk) T.len
    all_goals go_enter Tryz.func103, Tryz.ntmps103
    all_goals go_wp2_with (first | (go_at_call 113; refine (HE.out _ (by first | exact (HB _).out | exact (HB _).out.trans (hb1.mono (by simp)))).mono ?_; rw [Sb]; rintro e w2 ⟨rfl, hb2⟩))
    all_goals go_ret
    all_goals refine ⟨ao (by rw [fb.out]; unfold cw; simp only [al, he, kC h1, Qe h2, Sb]; rfl), ?_⟩
    all_goals first | exact (HB _).out | exact (HB _).out.trans (hb1.mono (by simp)) | exact (HB _).out.trans (hb2.mono (by simp)) | exact ((HB _).out.trans (hb1.mono (by simp))).trans (hb2.mono (by omega)) | exact ((HB _).out.trans (hb2.mono (by simp))).trans (hb3.mono (by omega))
   |clear k_1
    all_goals cases gX : aK (fun i => (T.kids i).eOk) (fun i => (T.kids i).sOk) T.kk T.len ⟨#[101]⟩
    all_goals go_enter Tryz.func103, Tryz.ntmps103
    all_goals go_wp2_with (first | (go_at_call 82; refine (HK.out _ (by first | exact (HB _).out | exact (HB _).out.trans (hb1.mono (by simp)) | exact (HB _).out.trans (hb2.mono (by simp))) ⟨#[101]⟩ (by decide)).mono ?_; rw [gX]; rintro e w2 ⟨rfl, hb2⟩; have ec := hb2.size; (try simp only [World.size_alloc] at ec); obtain ⟨iy, sW⟩ := eG hb2))
    all_goals go_ret
    all_goals refine ⟨ao (by rw [fb.out]; unfold cw; simp only [al, he, kC h1, gX]; rfl), ?_⟩
    all_goals first | exact (HB _).out | exact (HB _).out.trans (hb1.mono (by simp)) | exact (HB _).out.trans (hb2.mono (by simp)) | exact ((HB _).out.trans (hb1.mono (by simp))).trans (hb2.mono (by omega)) | exact ((HB _).out.trans (hb2.mono (by simp))).trans (hb3.mono (by omega))
  |clear k_1
   first
   |clear k_0
    all_goals cases h1 : decide (0 ≤ tn)
    all_goals cases h2 : decide (tn ≤ 999999999999999999)
    all_goals cases h3 : ((T.len : Int) == 0)
    all_goals go_enter Tryz.func103, Tryz.ntmps103
    all_goals go_wp2
    all_goals go_ret
    all_goals refine ⟨ao (by rw [fb.out]; unfold cw; simp only [al, he, h1, h2, nT h3]; rfl), ?_⟩
    all_goals first | exact (HB _).out | exact (HB _).out.trans (hb1.mono (by simp)) | exact (HB _).out.trans (hb2.mono (by simp)) | exact ((HB _).out.trans (hb1.mono (by simp))).trans (hb2.mono (by omega)) | exact ((HB _).out.trans (hb2.mono (by simp))).trans (hb3.mono (by omega))
   |clear k_1
    all_goals cases h1 : (tn == 0)
    all_goals cases h2 : (tn == 1)
    all_goals cases h3 : ((T.len : Int) == 0)
    all_goals go_enter Tryz.func103, Tryz.ntmps103
    all_goals go_wp2
    all_goals go_ret
    all_goals refine ⟨ao (by rw [fb.out]; unfold cw; simp only [al, he, pI h1, pI h2, nT h3]; rfl), ?_⟩
    all_goals first | exact (HB _).out | exact (HB _).out.trans (hb1.mono (by simp)) | exact (HB _).out.trans (hb2.mono (by simp)) | exact ((HB _).out.trans (hb1.mono (by simp))).trans (hb2.mono (by omega)) | exact ((HB _).out.trans (hb2.mono (by simp))).trans (hb3.mono (by omega))
 |clear k_1
  cases h1 : (tn != 0)
  first
  |clear k_0
   all_goals cases dc : aR ts
   first
   |clear k_0
    all_goals cases h3 : ((T.len : Int) == 0)
    all_goals go_enter Tryz.func103, Tryz.ntmps103
    all_goals go_wp2_with (first | (go_at_call 59; refine (gS _ _ HS.out).mono ?_; rw [dc]; rintro e w1 ⟨rfl, hb1⟩; have eZ := hb1.size; simp only [World.size_alloc] at eZ; obtain ⟨ed, qJ⟩ := eG hb1))
    all_goals go_ret
    all_goals refine ⟨ao (by rw [fb.out]; unfold cw; simp only [al, kC h1, dc, nT h3]; rfl), ?_⟩
    all_goals first | exact (HB _).out | exact (HB _).out.trans (hb1.mono (by simp)) | exact (HB _).out.trans (hb2.mono (by simp)) | exact ((HB _).out.trans (hb1.mono (by simp))).trans (hb2.mono (by omega)) | exact ((HB _).out.trans (hb2.mono (by simp))).trans (hb3.mono (by omega))
   |clear k_1
    all_goals cases Sb : aE (fun i => (T.kids i).eOk) T.len
    all_goals go_enter Tryz.func103, Tryz.ntmps103
    all_goals go_wp2_with (first | (go_at_call 59; refine (gS _ _ HS.out).mono ?_; rw [dc]; rintro e w1 ⟨rfl, hb1⟩; have eZ := hb1.size; simp only [World.size_alloc] at eZ; obtain ⟨ed, qJ⟩ := eG hb1) | (go_at_call 113; refine (HE.out _ (by first | exact (HB _).out | exact (HB _).out.trans (hb1.mono (by simp)))).mono ?_; rw [Sb]; rintro e w2 ⟨rfl, hb2⟩))
    all_goals go_ret
    all_goals refine ⟨ao (by rw [fb.out]; unfold cw; simp only [al, kC h1, dc, Sb]; rfl), ?_⟩
    all_goals first | exact (HB _).out | exact (HB _).out.trans (hb1.mono (by simp)) | exact (HB _).out.trans (hb2.mono (by simp)) | exact ((HB _).out.trans (hb1.mono (by simp))).trans (hb2.mono (by omega)) | exact ((HB _).out.trans (hb2.mono (by simp))).trans (hb3.mono (by omega))
  |clear k_1
   first
   |clear k_0
    all_goals cases h2 : (ts.toList == [45])
    all_goals cases h3 : (ts.toList == [33])
    all_goals cases gX : aK (fun i => (T.kids i).eOk) (fun i => (T.kids i).sOk) T.kk T.len ⟨#[101]⟩
    all_goals go_enter Tryz.func103, Tryz.ntmps103
    all_goals go_wp2_with (first | (go_at_call 82; refine (HK.out _ (by first | exact (HB _).out | exact (HB _).out.trans (hb1.mono (by simp)) | exact (HB _).out.trans (hb2.mono (by simp))) ⟨#[101]⟩ (by decide)).mono ?_; rw [gX]; rintro e w2 ⟨rfl, hb2⟩; have ec := hb2.size; (try simp only [World.size_alloc] at ec); obtain ⟨iy, sW⟩ := eG hb2))
    all_goals go_ret
    all_goals refine ⟨ao (by rw [fb.out]; unfold cw; simp only [al, kC h1, h2, h3, gX]; rfl), ?_⟩
    all_goals first | exact (HB _).out | exact (HB _).out.trans (hb1.mono (by simp)) | exact (HB _).out.trans (hb2.mono (by simp)) | exact ((HB _).out.trans (hb1.mono (by simp))).trans (hb2.mono (by omega)) | exact ((HB _).out.trans (hb2.mono (by simp))).trans (hb3.mono (by omega))
   |clear k_1
    all_goals cases h2 : decide (0 < iS ts)
    all_goals cases gX : aK (fun i => (T.kids i).eOk) (fun i => (T.kids i).sOk) T.kk T.len ⟨#[101, 101]⟩
    all_goals go_enter Tryz.func103, Tryz.ntmps103
    all_goals go_wp2_with (first | (go_at_call 114; refine (sN _ _).mono ?_; rintro e w1 ⟨rfl, hb1⟩; have eZ := hb1.size; simp only [World.size_alloc] at eZ; obtain ⟨ed, qJ⟩ := eG hb1) | (go_at_call 82; refine (HK.out _ (by first | exact (HB _).out | exact (HB _).out.trans (hb1.mono (by simp)) | exact (HB _).out.trans (hb2.mono (by simp))) ⟨#[101, 101]⟩ (by decide)).mono ?_; rw [gX]; rintro e w2 ⟨rfl, hb2⟩; have ec := hb2.size; (try simp only [World.size_alloc] at ec); obtain ⟨iy, sW⟩ := eG hb2))
    all_goals go_ret
    all_goals refine ⟨ao (by rw [fb.out]; unfold cw; simp only [al, kC h1, h2, gX]; rfl), ?_⟩
    all_goals first | exact (HB _).out | exact (HB _).out.trans (hb1.mono (by simp)) | exact (HB _).out.trans (hb2.mono (by simp)) | exact ((HB _).out.trans (hb1.mono (by simp))).trans (hb2.mono (by omega)) | exact ((HB _).out.trans (hb2.mono (by simp))).trans (hb3.mono (by omega))) : G := h
theorem IA (T : Nd) (hk : T.kind = 22) (hE : dX T) (hK : e8 T) : iD T := by
 intro w v hi hf cY hr
 have hn := T.fine_len hf
 have hs := T.fine_name hf
 obtain ⟨a, cap, hv, _, hq⟩ := ar.1 hr
 have fb : Hid (T.eOk = cw 22 T.num T.name T.len (fun i => (T.kids i).eOk) (fun i => (T.kids i).sOk) T.kk) := by have := dd T; rw [hk] at this; exact this
 have k_0 := kk
 exact bE2
theorem Iz (T : Nd) (hk : T.kind = 23) (hE : dX T) (hK : e8 T) : iD T := by
 intro w v hi hf cY hr
 have hn := T.fine_len hf
 have hs := T.fine_name hf
 obtain ⟨a, cap, hv, _, hq⟩ := ar.1 hr
 have fb : Hid (T.eOk = cw 23 T.num T.name T.len (fun i => (T.kids i).eOk) (fun i => (T.kids i).sOk) T.kk) := by have := dd T; rw [hk] at this; exact this
 have k_1 := kk
 exact bE2
theorem Iy (T : Nd) (hk : T.kind = 24) (hE : dX T) (hK : e8 T) : iD T := by
 intro w v hi hf cY hr
 have hn := T.fine_len hf
 have hs := T.fine_name hf
 obtain ⟨a, cap, hv, _, hq⟩ := ar.1 hr
 have fb : Hid (T.eOk = cw 24 T.num T.name T.len (fun i => (T.kids i).eOk) (fun i => (T.kids i).sOk) T.kk) := by have := dd T; rw [hk] at this; exact this
 have k_0 := kk
 exact bE1
theorem Iw (T : Nd) (hk : T.kind = 25) (hE : dX T) (hK : e8 T) : iD T := by
 intro w v hi hf cY hr
 have hn := T.fine_len hf
 have hs := T.fine_name hf
 obtain ⟨a, cap, hv, _, hq⟩ := ar.1 hr
 have fb : Hid (T.eOk = cw 25 T.num T.name T.len (fun i => (T.kids i).eOk) (fun i => (T.kids i).sOk) T.kk) := by have := dd T; rw [hk] at this; exact this
 have k_1 := kk
 exact bE1
theorem Iv (T : Nd) (hk : T.kind = 26) (hE : dX T) (hK : e8 T) : iD T := by
 intro w v hi hf cY hr
 have hn := T.fine_len hf
 have hs := T.fine_name hf
 obtain ⟨a, cap, hv, _, hq⟩ := ar.1 hr
 have fb : Hid (T.eOk = cw 26 T.num T.name T.len (fun i => (T.kids i).eOk) (fun i => (T.kids i).sOk) T.kk) := by have := dd T; rw [hk] at this; exact this
 have k_0 := kk
 exact bE0
theorem Iu (T : Nd) (hk : T.kind = 27) (hE : dX T) (hK : e8 T) : iD T := by
 intro w v hi hf cY hr
 have hn := T.fine_len hf
 have hs := T.fine_name hf
 obtain ⟨a, cap, hv, _, hq⟩ := ar.1 hr
 have fb : Hid (T.eOk = cw 27 T.num T.name T.len (fun i => (T.kids i).eOk) (fun i => (T.kids i).sOk) T.kk) := by have := dd T; rw [hk] at this; exact this
 have k_0 := kk
 exact bE3
theorem It (T : Nd) (hk : T.kind = 28) (hE : dX T) (hK : e8 T) : iD T := by
 intro w v hi hf cY hr
 have hn := T.fine_len hf
 have hs := T.fine_name hf
 obtain ⟨a, cap, hv, _, hq⟩ := ar.1 hr
 have fb : Hid (T.eOk = cw 28 T.num T.name T.len (fun i => (T.kids i).eOk) (fun i => (T.kids i).sOk) T.kk) := by have := dd T; rw [hk] at this; exact this
 have k_1 := kk
 exact bE3
theorem Is (T : Nd) (hk : T.kind = 29) (hE : dX T) (hK : e8 T) : iD T := by
 intro w v hi hf cY hr
 have hn := T.fine_len hf
 have hs := T.fine_name hf
 obtain ⟨a, cap, hv, _, hq⟩ := ar.1 hr
 have fb : Hid (T.eOk = cw 29 T.num T.name T.len (fun i => (T.kids i).eOk) (fun i => (T.kids i).sOk) T.kk) := by have := dd T; rw [hk] at this; exact this
 have k_1 := kk
 exact bE0
end Go.Proofs.YteaocammohcgoaaGreatDoor
