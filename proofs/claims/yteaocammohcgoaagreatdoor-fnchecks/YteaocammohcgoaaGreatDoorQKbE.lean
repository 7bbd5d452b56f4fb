import Derived.Test.YteaocammohcgoaaGreatDoorQKbA
set_option linter.unusedVariables false
set_option maxHeartbeats 16000000
set_option maxRecDepth 100000
namespace Go.Proofs.YteaocammohcgoaaGreatDoor
open Go.RowKit
variable {G : Prop}
theorem bF0 (h : G := by
 have k_F5_1 := kk
 exact bF5) : G := h
theorem bF1 (h : G := by
 have k_F6_1 := kk
 exact bF6) : G := h
theorem bF2 (h : G := by
 have k_F6_2 := kk
 exact bF6) : G := h
theorem bF3 (h : G := by
 have k_F4_0 := kk
 exact bF4) : G := h
theorem bF4 (h : G := by
 have k_F7_0 := kk
 exact bF7) : G := h
theorem bF5 (h : G := by
 have k_F8_0 := kk
 exact bF8) : G := h
theorem bF6 (h : G := by
 have k_F7_1 := kk
 exact bF7) : G := h
theorem bF7 (h : G := by
 have k_F8_1 := kk
 exact bF8) : G := h
theorem bF8 (h : G := by
 have HE := aa (fun W (hb : Below w.heap.size w W) => hE W v hi hf (by have := hb.size; omega) (ah hb cY hr))
 have HK := aa (fun W (hb : Below w.heap.size w W) bD => hK W v hi bD hf (by have := hb.size; omega) (ah hb cY hr))
 have HQ := aa hq
 have HS : Hid (T.name.size ≤ maxLen) := by unfold Hid maxLen; exact hs
 have HB : ∀ o : Obj, Hid (Below w.heap.size w (w.alloc o)) := fun o => bA
 unfold Nd.val at *
 rw [hk] at *
 subst hv
 clear hf hr hE hK hs hk hq
 generalize T.num = tn at *
 generalize T.name = ts at *
 cases he : ts.toList.isEmpty
 first
 |clear k_F8_0
  all_goals cases dc : aR ts
  first
  |clear k_F5_0
   all_goals cases h1 : (tn == 1)
   all_goals cases h2 : (tn == -1)
   all_goals cases h3 : ((T.len : Int) == 0)
   all_goals go_enter Tryz.func60, Tryz.ntmps60
   all_goals go_wp2_with (first | (go_at_call 59; refine (gS _ _ HS.out).mono ?_; rw [dc]; rintro e w1 ⟨rfl, hb1⟩; have eZ := hb1.size; simp only [World.size_alloc] at eZ; obtain ⟨ed, qJ⟩ := eG hb1))
   all_goals go_ret
   all_goals refine ⟨ao (by rw [fb.out]; unfold ba; simp only [al, he, dc, pI h1, pI h2, nT h3]; rfl), ?_⟩
   all_goals first | exact (HB _).out | exact (HB _).out.trans (hb1.mono (by simp)) | exact (HB _).out.trans (hb2.mono (by simp)) | exact ((HB _).out.trans (hb1.mono (by simp))).trans (hb2.mono (by omega)) | exact ((HB _).out.trans (hb2.mono (by simp))).trans (hb3.mono (by omega))
  |clear k_F5_1
   all_goals cases h1 : (tn != 0)
   all_goals cases gX : aK (fun i => (T.kids i).eOk) (fun i => (T.kids i).sOk) T.kk T.len ⟨#[101]⟩
   all_goals go_enter Tryz.func60, Tryz.ntmps60
   all_goals go_wp2_with (first | (go_at_call 59; refine (gS _ _ HS.out).mono ?_; rw [dc]; rintro e w1 ⟨rfl, hb1⟩; have eZ := hb1.size; simp only [World.size_alloc] at eZ; obtain ⟨ed, qJ⟩ := eG hb1) | (go_at_call 82; refine (HK.out _ (by first | exact (HB _).out | exact (HB _).out.trans (hb1.mono (by simp)) | exact (HB _).out.trans (hb2.mono (by simp))) ⟨#[101]⟩ (by decide)).mono ?_; rw [gX]; rintro e w2 ⟨rfl, hb2⟩; have ec := hb2.size; (try simp only [World.size_alloc] at ec); obtain ⟨iy, sW⟩ := eG hb2))
   all_goals go_ret
   all_goals refine ⟨ao (by rw [fb.out]; unfold ba; simp only [al, he, dc, kC h1, gX]; rfl), ?_⟩
   all_goals first | exact (HB _).out | exact (HB _).out.trans (hb1.mono (by simp)) | exact (HB _).out.trans (hb2.mono (by simp)) | exact ((HB _).out.trans (hb1.mono (by simp))).trans (hb2.mono (by omega)) | exact ((HB _).out.trans (hb2.mono (by simp))).trans (hb3.mono (by omega))
 |clear k_F8_1
  all_goals cases h1 : (tn != 0)
  first
  |clear k_F7_0
   all_goals cases h3 : ((T.len : Int) == 0)
   first
   |clear k_F4_0
    all_goals go_enter Tryz.func60, Tryz.ntmps60
    all_goals go_wp2
    all_goals go_ret
    all_goals refine ⟨ao (by rw [fb.out]; unfold ba; simp only [al, he, kC h1, nT h3]; rfl), ?_⟩
    all_goals first | exact (HB _).out | exact (HB _).out.trans (hb1.mono (by simp)) | exact (HB _).out.trans (hb2.mono (by simp)) | exact ((HB _).out.trans (hb1.mono (by simp))).trans (hb2.mono (by omega)) | exact ((HB _).out.trans (hb2.mono (by simp))).trans (hb3.mono (by omega))
   |clear k_F4_1
    all_goals cases gX : aK (fun i => (T.kids i).eOk) (fun i => (T.kids i).sOk) T.kk T.len ⟨#[101]⟩
    all_goals go_enter Tryz.func60, Tryz.ntmps60
    all_goals go_wp2_with (first | (go_at_call 82; refine (HK.out _ (by first | exact (HB _).out | exact (HB _).out.trans (hb1.mono (by simp)) | exact (HB _).out.trans (hb2.mono (by simp))) ⟨#[101]⟩ (by decide)).mono ?_; rw [gX]; rintro e w2 ⟨rfl, hb2⟩; have ec := hb2.size; (try simp only [World.size_alloc] at ec); obtain ⟨iy, sW⟩ := eG hb2))
    all_goals go_ret
    all_goals refine ⟨ao (by rw [fb.out]; unfold ba; simp only [al, he, kC h1, nT h3, gX]; rfl), ?_⟩
    all_goals first | exact (HB _).out | exact (HB _).out.trans (hb1.mono (by simp)) | exact (HB _).out.trans (hb2.mono (by simp)) | exact ((HB _).out.trans (hb1.mono (by simp))).trans (hb2.mono (by omega)) | exact ((HB _).out.trans (hb2.mono (by simp))).trans (hb3.mono (by omega))
  |clear k_F7_1
   first
   |clear k_F6_0
    all_goals cases gX : aK (fun i => (T.kids i).eOk) (fun i => (T.kids i).sOk) T.kk T.len ⟨#[101, 101]⟩
    all_goals go_enter Tryz.func60, Tryz.ntmps60
    all_goals go_wp2_with (first | (go_at_call 82; refine (HK.out _ (by first | exact (HB _).out | exact (HB _).out.trans (hb1.mono (by simp)) | exact (HB _).out.trans (hb2.mono (by simp))) ⟨#[101, 101]⟩ (by decide)).mono ?_; rw [gX]; rintro e w2 ⟨rfl, hb2⟩; have ec := hb2.size; (try simp only [World.size_alloc] at ec); obtain ⟨iy, sW⟩ := eG hb2))
    all_goals go_ret
    all_goals refine ⟨ao (by rw [fb.out]; unfold ba; simp only [al, he, kC h1, gX]; rfl), ?_⟩
    all_goals first | exact (HB _).out | exact (HB _).out.trans (hb1.mono (by simp)) | exact (HB _).out.trans (hb2.mono (by simp)) | exact ((HB _).out.trans (hb1.mono (by simp))).trans (hb2.mono (by omega)) | exact ((HB _).out.trans (hb2.mono (by simp))).trans (hb3.mono (by omega))
   |clear k_F6_1
    all_goals cases gX : aK (fun i => (T.kids i).eOk) (fun i => (T.kids i).sOk) T.kk T.len ⟨#[101]⟩
    all_goals go_enter Tryz.func60, Tryz.ntmps60
    all_goals go_wp2_with (first | (go_at_call 82; refine (HK.out _ (by first | exact (HB _).out | exact (HB _).out.trans (hb1.mono (by simp)) | exact (HB _).out.trans (hb2.mono (by simp))) ⟨#[101]⟩ (by decide)).mono ?_; rw [gX]; rintro e w2 ⟨rfl, hb2⟩; have ec := hb2.size; (try simp only [World.size_alloc] at ec); obtain ⟨iy, sW⟩ := eG hb2))
    all_goals go_ret
    all_goals refine ⟨ao (by rw [fb.out]; unfold ba; simp only [al, he, kC h1, gX]; rfl), ?_⟩
    all_goals first | exact (HB _).out | exact (HB _).out.trans (hb1.mono (by simp)) | exact (HB _).out.trans (hb2.mono (by simp)) | exact ((HB _).out.trans (hb1.mono (by simp))).trans (hb2.mono (by omega)) | exact ((HB _).out.trans (hb2.mono (by simp))).trans (hb3.mono (by omega))
   |clear k_F6_2
    all_goals cases gX : aK (fun i => (T.kids i).eOk) (fun i => (T.kids i).sOk) T.kk T.len ⟨#[99]⟩
    all_goals go_enter Tryz.func60, Tryz.ntmps60
    all_goals go_wp2_with (first | (go_at_call 82; refine (HK.out _ (by first | exact (HB _).out | exact (HB _).out.trans (hb1.mono (by simp)) | exact (HB _).out.trans (hb2.mono (by simp))) ⟨#[99]⟩ (by decide)).mono ?_; rw [gX]; rintro e w2 ⟨rfl, hb2⟩; have ec := hb2.size; (try simp only [World.size_alloc] at ec); obtain ⟨iy, sW⟩ := eG hb2))
    all_goals go_ret
    all_goals refine ⟨ao (by rw [fb.out]; unfold ba; simp only [al, he, kC h1, gX]; rfl), ?_⟩
    all_goals first | exact (HB _).out | exact (HB _).out.trans (hb1.mono (by simp)) | exact (HB _).out.trans (hb2.mono (by simp)) | exact ((HB _).out.trans (hb1.mono (by simp))).trans (hb2.mono (by omega)) | exact ((HB _).out.trans (hb2.mono (by simp))).trans (hb3.mono (by omega))) : G := h
theorem Le (T : Nd) (hk : T.kind = 5) (hE : dX T) (hK : e8 T) : eN T := by
 intro w v hi hf cY hr
 have hn := T.fine_len hf
 have hs := T.fine_name hf
 obtain ⟨a, cap, hv, _, hq⟩ := ar.1 hr
 have fb : Hid (T.sOk = ba 5 T.num T.name T.len (fun i => (T.kids i).eOk) (fun i => (T.kids i).sOk) (fun i => (T.kids i).cOk) T.kk) := by have := bH T; rw [hk] at this; exact this
 exact bF0
theorem Ld (T : Nd) (hk : T.kind = 6) (hE : dX T) (hK : e8 T) : eN T := by
 intro w v hi hf cY hr
 have hn := T.fine_len hf
 have hs := T.fine_name hf
 obtain ⟨a, cap, hv, _, hq⟩ := ar.1 hr
 have fb : Hid (T.sOk = ba 6 T.num T.name T.len (fun i => (T.kids i).eOk) (fun i => (T.kids i).sOk) (fun i => (T.kids i).cOk) T.kk) := by have := bH T; rw [hk] at this; exact this
 exact bF0
theorem Lc (T : Nd) (hk : T.kind = 7) (hE : dX T) (hK : e8 T) : eN T := by
 intro w v hi hf cY hr
 have hn := T.fine_len hf
 have hs := T.fine_name hf
 obtain ⟨a, cap, hv, _, hq⟩ := ar.1 hr
 have fb : Hid (T.sOk = ba 7 T.num T.name T.len (fun i => (T.kids i).eOk) (fun i => (T.kids i).sOk) (fun i => (T.kids i).cOk) T.kk) := by have := bH T; rw [hk] at this; exact this
 have k_F5_0 := kk
 exact bF5
theorem Lb (T : Nd) (hk : T.kind = 8) (hE : dX T) (hK : e8 T) : eN T := by
 intro w v hi hf cY hr
 have hn := T.fine_len hf
 have hs := T.fine_name hf
 obtain ⟨a, cap, hv, _, hq⟩ := ar.1 hr
 have fb : Hid (T.sOk = ba 8 T.num T.name T.len (fun i => (T.kids i).eOk) (fun i => (T.kids i).sOk) (fun i => (T.kids i).cOk) T.kk) := by have := bH T; rw [hk] at this; exact this
 have k_F6_0 := kk
 exact bF6
theorem GM (T : Nd) (hk : T.kind = 17) (hE : dX T) (hK : e8 T) : eN T := by
 intro w v hi hf cY hr
 have hn := T.fine_len hf
 have hs := T.fine_name hf
 obtain ⟨a, cap, hv, _, hq⟩ := ar.1 hr
 have fb : Hid (T.sOk = ba 17 T.num T.name T.len (fun i => (T.kids i).eOk) (fun i => (T.kids i).sOk) (fun i => (T.kids i).cOk) T.kk) := by have := bH T; rw [hk] at this; exact this
 exact bF3
theorem GK (T : Nd) (hk : T.kind = 19) (hE : dX T) (hK : e8 T) : eN T := by
 intro w v hi hf cY hr
 have hn := T.fine_len hf
 have hs := T.fine_name hf
 obtain ⟨a, cap, hv, _, hq⟩ := ar.1 hr
 have fb : Hid (T.sOk = ba 19 T.num T.name T.len (fun i => (T.kids i).eOk) (fun i => (T.kids i).sOk) (fun i => (T.kids i).cOk) T.kk) := by have := bH T; rw [hk] at this; exact this
 exact bF1
theorem GJ (T : Nd) (hk : T.kind = 20) (hE : dX T) (hK : e8 T) : eN T := by
 intro w v hi hf cY hr
 have hn := T.fine_len hf
 have hs := T.fine_name hf
 obtain ⟨a, cap, hv, _, hq⟩ := ar.1 hr
 have fb : Hid (T.sOk = ba 20 T.num T.name T.len (fun i => (T.kids i).eOk) (fun i => (T.kids i).sOk) (fun i => (T.kids i).cOk) T.kk) := by have := bH T; rw [hk] at this; exact this
 exact bF1
theorem GI (T : Nd) (hk : T.kind = 21) (hE : dX T) (hK : e8 T) : eN T := by
 intro w v hi hf cY hr
 have hn := T.fine_len hf
 have hs := T.fine_name hf
 obtain ⟨a, cap, hv, _, hq⟩ := ar.1 hr
 have fb : Hid (T.sOk = ba 21 T.num T.name T.len (fun i => (T.kids i).eOk) (fun i => (T.kids i).sOk) (fun i => (T.kids i).cOk) T.kk) := by have := bH T; rw [hk] at this; exact this
 exact bF1
theorem GL (T : Nd) (hk : T.kind = 18) (hE : dX T) (hK : e8 T) : eN T := by
 intro w v hi hf cY hr
 have hn := T.fine_len hf
 have hs := T.fine_name hf
 obtain ⟨a, cap, hv, _, hq⟩ := ar.1 hr
 have fb : Hid (T.sOk = ba 18 T.num T.name T.len (fun i => (T.kids i).eOk) (fun i => (T.kids i).sOk) (fun i => (T.kids i).cOk) T.kk) := by have := bH T; rw [hk] at this; exact this
 exact bF3
theorem GP (T : Nd) (hk : T.kind = 13) (hE : dX T) (hK : e8 T) : eN T := by
 intro w v hi hf cY hr
 have hn := T.fine_len hf
 have hs := T.fine_name hf
 obtain ⟨a, cap, hv, _, hq⟩ := ar.1 hr
 have fb : Hid (T.sOk = ba 13 T.num T.name T.len (fun i => (T.kids i).eOk) (fun i => (T.kids i).sOk) (fun i => (T.kids i).cOk) T.kk) := by have := bH T; rw [hk] at this; exact this
 exact bF2
theorem GO (T : Nd) (hk : T.kind = 14) (hE : dX T) (hK : e8 T) : eN T := by
 intro w v hi hf cY hr
 have hn := T.fine_len hf
 have hs := T.fine_name hf
 obtain ⟨a, cap, hv, _, hq⟩ := ar.1 hr
 have fb : Hid (T.sOk = ba 14 T.num T.name T.len (fun i => (T.kids i).eOk) (fun i => (T.kids i).sOk) (fun i => (T.kids i).cOk) T.kk) := by have := bH T; rw [hk] at this; exact this
 exact bF2
theorem GQ (T : Nd) (hk : T.kind = 12) (hE : dX T) (hK : e8 T) : eN T := by
 intro w v hi hf cY hr
 have hn := T.fine_len hf
 have hs := T.fine_name hf
 obtain ⟨a, cap, hv, _, hq⟩ := ar.1 hr
 have fb : Hid (T.sOk = ba 12 T.num T.name T.len (fun i => (T.kids i).eOk) (fun i => (T.kids i).sOk) (fun i => (T.kids i).cOk) T.kk) := by have := bH T; rw [hk] at this; exact this
 have k_F4_1 := kk
 exact bF4
end Go.Proofs.YteaocammohcgoaaGreatDoor
