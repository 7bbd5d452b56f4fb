import Derived.Test.YtkfbbdhidecefaaDoorUKbA
set_option linter.unusedVariables false
set_option maxHeartbeats 16000000
set_option maxRecDepth 100000
namespace Go.Proofs.YtkfbbdhidecefaaDoor
open Go.RowKit
variable {G : Prop}
theorem bc0 (h : G := by
 have k_c4_0 := kk
 exact bc4) : G := h
theorem bc1 (h : G := by
 have k_c5_0 := kk
 exact bc5) : G := h
theorem bc2 (h : G := by
 have k_c4_1 := kk
 exact bc4) : G := h
theorem bc3 (h : G := by
 have k_c5_1 := kk
 exact bc5) : G := h
theorem bc4 (h : G := by
 have k_c6_0 := kk
 exact bc6) : G := h
theorem bc5 (h : G := by
 have k_c6_1 := kk
 exact bc6) : G := h
theorem bc6 (h : G := by
 have HE := aa (fun W (hb : Below w.heap.size w W) => hE W v hi hf (by have := hb.size; omega) (ae hb gW hr))
 have HK := aa (fun W (hb : Below w.heap.size w W) bo => hK W v hi bo hf (by have := hb.size; omega) (ae hb gW hr))
 have HQ := aa hq
 have HS : Hid (T.name.size ≤ maxLen) := by unfold Hid maxLen; exact hs
 have HB : ∀ o : Obj, Hid (Below w.heap.size w (w.alloc o)) := fun o => bA
 unfold Nd.val at *
 rw [hk] at *
 subst hv
 clear hf hr hE hK hs hk hq
 generalize T.num = tn at *
 generalize T.name = ts at *
 first
 |clear k_c6_0
  cases he : ts.toList.isEmpty
  first
  |clear k_c4_0
   all_goals cases h1 : (tn != 0)
   first
   |clear k_c0_0
    all_goals cases h2 : decide ((T.len : Int) < 2)
    all_goals cases S7 : cM (fun i => (T.kids i).eOk) T.len
    all_goals go_enter Tryd.func79, Tryd.ntmps79
    all_goals go_wp2_with (first | (go_at_call 87; refine (HE.out _ (by first | exact (HB _).out | exact (HB _).out.trans (hb1.mono (by simp)))).mono ?_; rw [S7]; rintro e w2 ⟨rfl, hb2⟩))
    all_goals go_ret
    all_goals refine ⟨aq (by rw [kX.out]; unfold cq; simp only [az, he, pc h1, Rd h2, S7]; rfl), ?_⟩
    all_goals first | exact (HB _).out | exact (HB _).out.trans (hb1.mono (by simp)) | exact (HB _).out.trans (hb2.mono (by simp)) | exact ((HB _).out.trans (hb1.mono (by simp))).trans (hb2.mono (by omega)) | exact ((HB _).out.trans (hb2.mono (by simp))).trans (hb3.mono (by omega))
   |clear k_c0_1
    all_goals cases mC : aE (fun i => (T.kids i).eOk) (fun i => (T.kids i).sOk) T.kk T.len ⟨#[101]⟩
    all_goals go_enter Tryd.func79, Tryd.ntmps79
    all_goals go_wp2_with (first | (go_at_call 63; refine (HK.out _ (by first | exact (HB _).out | exact (HB _).out.trans (hb1.mono (by simp)) | exact (HB _).out.trans (hb2.mono (by simp))) ⟨#[101]⟩ (by decide)).mono ?_; rw [mC]; rintro e w2 ⟨rfl, hb2⟩; have hQ := hb2.size; (try simp only [World.size_alloc] at hQ); obtain ⟨oC, Ay⟩ := iw hb2))
    all_goals go_ret
    all_goals refine ⟨aq (by rw [kX.out]; unfold cq; simp only [az, he, pc h1, mC]; rfl), ?_⟩
    all_goals first | exact (HB _).out | exact (HB _).out.trans (hb1.mono (by simp)) | exact (HB _).out.trans (hb2.mono (by simp)) | exact ((HB _).out.trans (hb1.mono (by simp))).trans (hb2.mono (by omega)) | exact ((HB _).out.trans (hb2.mono (by simp))).trans (hb3.mono (by omega))
  |clear k_c4_1
   first
   |clear k_c2_0
    all_goals cases h1 : decide (0 ≤ tn)
    all_goals cases h2 : decide (tn ≤ 999999999999999999)
    all_goals cases h3 : ((T.len : Int) == 0)
    all_goals go_enter Tryd.func79, Tryd.ntmps79
    all_goals go_wp2
    all_goals go_ret
    all_goals refine ⟨aq (by rw [kX.out]; unfold cq; simp only [az, he, h1, h2, sF h3]; rfl), ?_⟩
    all_goals first | exact (HB _).out | exact (HB _).out.trans (hb1.mono (by simp)) | exact (HB _).out.trans (hb2.mono (by simp)) | exact ((HB _).out.trans (hb1.mono (by simp))).trans (hb2.mono (by omega)) | exact ((HB _).out.trans (hb2.mono (by simp))).trans (hb3.mono (by omega))
   |clear k_c2_1
    all_goals cases h1 : (tn == 0)
    all_goals cases h2 : (tn == 1)
    all_goals cases h3 : ((T.len : Int) == 0)
    all_goals go_enter Tryd.func79, Tryd.ntmps79
    all_goals go_wp2
    all_goals go_ret
    all_goals refine ⟨aq (by rw [kX.out]; unfold cq; simp only [az, he, wV h1, wV h2, sF h3]; rfl), ?_⟩
    all_goals first | exact (HB _).out | exact (HB _).out.trans (hb1.mono (by simp)) | exact (HB _).out.trans (hb2.mono (by simp)) | exact ((HB _).out.trans (hb1.mono (by simp))).trans (hb2.mono (by omega)) | exact ((HB _).out.trans (hb2.mono (by simp))).trans (hb3.mono (by omega))
 |clear k_c6_1
  cases h1 : (tn != 0)
  first
  |clear k_c5_0
   all_goals cases il : ck ts
   first
   |clear k_c1_0
    all_goals cases h3 : ((T.len : Int) == 0)
    all_goals go_enter Tryd.func79, Tryd.ntmps79
    all_goals go_wp2_with (first | (go_at_call 42; refine (l6 _ _ HS.out).mono ?_; rw [il]; rintro e w1 ⟨rfl, hb1⟩; have hZ := hb1.size; simp only [World.size_alloc] at hZ; obtain ⟨iQ, yj⟩ := iw hb1))
    all_goals go_ret
    all_goals refine ⟨aq (by rw [kX.out]; unfold cq; simp only [az, pc h1, il, sF h3]; rfl), ?_⟩
    all_goals first | exact (HB _).out | exact (HB _).out.trans (hb1.mono (by simp)) | exact (HB _).out.trans (hb2.mono (by simp)) | exact ((HB _).out.trans (hb1.mono (by simp))).trans (hb2.mono (by omega)) | exact ((HB _).out.trans (hb2.mono (by simp))).trans (hb3.mono (by omega))
   |clear k_c1_1
    all_goals cases S7 : cM (fun i => (T.kids i).eOk) T.len
    all_goals go_enter Tryd.func79, Tryd.ntmps79
    all_goals go_wp2_with (first | (go_at_call 42; refine (l6 _ _ HS.out).mono ?_; rw [il]; rintro e w1 ⟨rfl, hb1⟩; have hZ := hb1.size; simp only [World.size_alloc] at hZ; obtain ⟨iQ, yj⟩ := iw hb1) | (go_at_call 87; refine (HE.out _ (by first | exact (HB _).out | exact (HB _).out.trans (hb1.mono (by simp)))).mono ?_; rw [S7]; rintro e w2 ⟨rfl, hb2⟩))
    all_goals go_ret
    all_goals refine ⟨aq (by rw [kX.out]; unfold cq; simp only [az, pc h1, il, S7]; rfl), ?_⟩
    all_goals first | exact (HB _).out | exact (HB _).out.trans (hb1.mono (by simp)) | exact (HB _).out.trans (hb2.mono (by simp)) | exact ((HB _).out.trans (hb1.mono (by simp))).trans (hb2.mono (by omega)) | exact ((HB _).out.trans (hb2.mono (by simp))).trans (hb3.mono (by omega))
  |clear k_c5_1
   first
   |clear k_c3_0
    all_goals cases h2 : (ts.toList == [45])
    all_goals cases h3 : (ts.toList == [33])
    all_goals cases mC : aE (fun i => (T.kids i).eOk) (fun i => (T.kids i).sOk) T.kk T.len ⟨#[101]⟩
    all_goals go_enter Tryd.func79, Tryd.ntmps79
    all_goals go_wp2_with (first | (go_at_call 63; refine (HK.out _ (by first | exact (HB _).out | exact (HB _).out.trans (hb1.mono (by simp)) | exact (HB _).out.trans (hb2.mono (by simp))) ⟨#[101]⟩ (by decide)).mono ?_; rw [mC]; rintro e w2 ⟨rfl, hb2⟩; have hQ := hb2.size; (try simp only [World.size_alloc] at hQ); obtain ⟨oC, Ay⟩ := iw hb2))
    all_goals go_ret
    all_goals refine ⟨aq (by rw [kX.out]; unfold cq; simp only [az, pc h1, h2, h3, mC]; rfl), ?_⟩
    all_goals first | exact (HB _).out | exact (HB _).out.trans (hb1.mono (by simp)) | exact (HB _).out.trans (hb2.mono (by simp)) | exact ((HB _).out.trans (hb1.mono (by simp))).trans (hb2.mono (by omega)) | exact ((HB _).out.trans (hb2.mono (by simp))).trans (hb3.mono (by omega))
   |clear k_c3_1
    all_goals cases h2 : decide (0 < lX ts)
    all_goals cases mC : aE (fun i => (T.kids i).eOk) (fun i => (T.kids i).sOk) T.kk T.len ⟨#[101, 101]⟩
    all_goals go_enter Tryd.func79, Tryd.ntmps79
    all_goals go_wp2_with (first | (go_at_call 88; refine (tJ _ _).mono ?_; rintro e w1 ⟨rfl, hb1⟩; have hZ := hb1.size; simp only [World.size_alloc] at hZ; obtain ⟨iQ, yj⟩ := iw hb1) | (go_at_call 63; refine (HK.out _ (by first | exact (HB _).out | exact (HB _).out.trans (hb1.mono (by simp)) | exact (HB _).out.trans (hb2.mono (by simp))) ⟨#[101, 101]⟩ (by decide)).mono ?_; rw [mC]; rintro e w2 ⟨rfl, hb2⟩; have hQ := hb2.size; (try simp only [World.size_alloc] at hQ); obtain ⟨oC, Ay⟩ := iw hb2))
    all_goals go_ret
    all_goals refine ⟨aq (by rw [kX.out]; unfold cq; simp only [az, pc h1, h2, mC]; rfl), ?_⟩
    all_goals first | exact (HB _).out | exact (HB _).out.trans (hb1.mono (by simp)) | exact (HB _).out.trans (hb2.mono (by simp)) | exact ((HB _).out.trans (hb1.mono (by simp))).trans (hb2.mono (by omega)) | exact ((HB _).out.trans (hb2.mono (by simp))).trans (hb3.mono (by omega))) : G := h
theorem K3 (T : Nd) (hk : T.kind = 22) (hE : gL T) (hK : iG T) : mL T := by
 intro w v hi hf gW hr
 have hn := T.fine_len hf
 have hs := T.fine_name hf
 obtain ⟨a, cap, hv, _, hq⟩ := ar.1 hr
 have kX : Hid (T.eOk = cq 22 T.num T.name T.len (fun i => (T.kids i).eOk) (fun i => (T.kids i).sOk) T.kk) := by have := b8 T; rw [hk] at this; exact this
 have k_c2_0 := kk
 exact bc2
theorem KZ (T : Nd) (hk : T.kind = 23) (hE : gL T) (hK : iG T) : mL T := by
 intro w v hi hf gW hr
 have hn := T.fine_len hf
 have hs := T.fine_name hf
 obtain ⟨a, cap, hv, _, hq⟩ := ar.1 hr
 have kX : Hid (T.eOk = cq 23 T.num T.name T.len (fun i => (T.kids i).eOk) (fun i => (T.kids i).sOk) T.kk) := by have := b8 T; rw [hk] at this; exact this
 have k_c2_1 := kk
 exact bc2
theorem KY (T : Nd) (hk : T.kind = 24) (hE : gL T) (hK : iG T) : mL T := by
 intro w v hi hf gW hr
 have hn := T.fine_len hf
 have hs := T.fine_name hf
 obtain ⟨a, cap, hv, _, hq⟩ := ar.1 hr
 have kX : Hid (T.eOk = cq 24 T.num T.name T.len (fun i => (T.kids i).eOk) (fun i => (T.kids i).sOk) T.kk) := by have := b8 T; rw [hk] at this; exact this
 have k_c1_0 := kk
 exact bc1
theorem KX (T : Nd) (hk : T.kind = 25) (hE : gL T) (hK : iG T) : mL T := by
 intro w v hi hf gW hr
 have hn := T.fine_len hf
 have hs := T.fine_name hf
 obtain ⟨a, cap, hv, _, hq⟩ := ar.1 hr
 have kX : Hid (T.eOk = cq 25 T.num T.name T.len (fun i => (T.kids i).eOk) (fun i => (T.kids i).sOk) T.kk) := by have := b8 T; rw [hk] at this; exact this
 have k_c1_1 := kk
 exact bc1
theorem KW (T : Nd) (hk : T.kind = 26) (hE : gL T) (hK : iG T) : mL T := by
 intro w v hi hf gW hr
 have hn := T.fine_len hf
 have hs := T.fine_name hf
 obtain ⟨a, cap, hv, _, hq⟩ := ar.1 hr
 have kX : Hid (T.eOk = cq 26 T.num T.name T.len (fun i => (T.kids i).eOk) (fun i => (T.kids i).sOk) T.kk) := by have := b8 T; rw [hk] at this; exact this
 have k_c0_0 := kk
 exact bc0
theorem KV (T : Nd) (hk : T.kind = 27) (hE : gL T) (hK : iG T) : mL T := by
 intro w v hi hf gW hr
 have hn := T.fine_len hf
 have hs := T.fine_name hf
 obtain ⟨a, cap, hv, _, hq⟩ := ar.1 hr
 have kX : Hid (T.eOk = cq 27 T.num T.name T.len (fun i => (T.kids i).eOk) (fun i => (T.kids i).sOk) T.kk) := by have := b8 T; rw [hk] at this; exact this
 have k_c3_0 := kk
 exact bc3
theorem KU (T : Nd) (hk : T.kind = 28) (hE : gL T) (hK : iG T) : mL T := by
 intro w v hi hf gW hr
 have hn := T.fine_len hf
 have hs := T.fine_name hf
 obtain ⟨a, cap, hv, _, hq⟩ := ar.1 hr
 have kX : Hid (T.eOk = cq 28 T.num T.name T.len (fun i => (T.kids i).eOk) (fun i => (T.kids i).sOk) T.kk) := by have := b8 T; rw [hk] at this; exact this
 have k_c3_1 := kk
 exact bc3
theorem KT (T : Nd) (hk : T.kind = 29) (hE : gL T) (hK : iG T) : mL T := by
 intro w v hi hf gW hr
 have hn := T.fine_len hf
 have hs := T.fine_name hf
 obtain ⟨a, cap, hv, _, hq⟩ := ar.1 hr
 have kX : Hid (T.eOk = cq 29 T.num T.name T.len (fun i => (T.kids i).eOk) (fun i => (T.kids i).sOk) T.kk) := by have := b8 T; rw [hk] at this; exact this
 have k_c0_1 := kk
 exact bc0
end Go.Proofs.YtkfbbdhidecefaaDoor
