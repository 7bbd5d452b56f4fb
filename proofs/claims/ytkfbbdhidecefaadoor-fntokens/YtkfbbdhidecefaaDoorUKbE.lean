import Derived.Test.YtkfbbdhidecefaaDoorUKbA
set_option linter.unusedVariables false
set_option maxHeartbeats 16000000
set_option maxRecDepth 100000
namespace Go.Proofs.YtkfbbdhidecefaaDoor
open Go.RowKit
variable {G : Prop}
theorem bd0 (h : G := by
 have k_d5_1 := kk
 exact bd5) : G := h
theorem bd1 (h : G := by
 have k_d6_1 := kk
 exact bd6) : G := h
theorem bd2 (h : G := by
 have k_d6_2 := kk
 exact bd6) : G := h
theorem bd3 (h : G := by
 have k_d4_0 := kk
 exact bd4) : G := h
theorem bd4 (h : G := by
 have k_d7_0 := kk
 exact bd7) : G := h
theorem bd5 (h : G := by
 have k_d8_0 := kk
 exact bd8) : G := h
theorem bd6 (h : G := by
 have k_d7_1 := kk
 exact bd7) : G := h
theorem bd7 (h : G := by
 have k_d8_1 := kk
 exact bd8) : G := h
theorem bd8 (h : G := by
 have HE := aa (fun W (hb : Below w.heap.size w W) => hE W v hi hf (by have := hb.size; omega) (ae hb gW hr))
 have HK := aa (fun W (hb : Below w.heap.size w W) bo => hK W v hi bo hf (by have := hb.size; omega) (ae hb gW hr))
 have HQ := aa hq
 have HS : Hid (T.name.size ≤ maxLen) := by unfold Hid maxLen; exact hs
 have HB : ∀ o : Obj, Hid (Below w.heap.size w (w.alloc o)) := fun o => bA
 unfold Nd.val at *
 rw [hk] at *
 subst hv
 clear hf hr hE hK hs hk hq
 generalize T.num = tn at *
 generalize T.name = ts at *
 cases he : ts.toList.isEmpty
 first
 |clear k_d8_0
  all_goals cases il : ck ts
  first
  |clear k_d5_0
   all_goals cases h1 : (tn == 1)
   all_goals cases h2 : (tn == -1)
   all_goals cases h3 : ((T.len : Int) == 0)
   all_goals go_enter Tryd.func43, Tryd.ntmps43
   all_goals go_wp2_with (first | (go_at_call 42; refine (l6 _ _ HS.out).mono ?_; rw [il]; rintro e w1 ⟨rfl, hb1⟩; have hZ := hb1.size; simp only [World.size_alloc] at hZ; obtain ⟨iQ, yj⟩ := iw hb1))
   all_goals go_ret
   all_goals refine ⟨aq (by rw [kX.out]; unfold aJ; simp only [az, he, il, wV h1, wV h2, sF h3]; rfl), ?_⟩
   all_goals first | exact (HB _).out | exact (HB _).out.trans (hb1.mono (by simp)) | exact (HB _).out.trans (hb2.mono (by simp)) | exact ((HB _).out.trans (hb1.mono (by simp))).trans (hb2.mono (by omega)) | exact ((HB _).out.trans (hb2.mono (by simp))).trans (hb3.mono (by omega))
  |clear k_d5_1
   all_goals cases h1 : (tn != 0)
   all_goals cases mC : aE (fun i => (T.kids i).eOk) (fun i => (T.kids i).sOk) T.kk T.len ⟨#[101]⟩
   all_goals go_enter Tryd.func43, Tryd.ntmps43
   all_goals go_wp2_with (first | (go_at_call 42; refine (l6 _ _ HS.out).mono ?_; rw [il]; rintro e w1 ⟨rfl, hb1⟩; have hZ := hb1.size; simp only [World.size_alloc] at hZ; obtain ⟨iQ, yj⟩ := iw hb1) | (go_at_call 63; refine (HK.out _ (by first | exact (HB _).out | exact (HB _).out.trans (hb1.mono (by simp)) | exact (HB _).out.trans (hb2.mono (by simp))) ⟨#[101]⟩ (by decide)).mono ?_; rw [mC]; rintro e w2 ⟨rfl, hb2⟩; have hQ := hb2.size; (try simp only [World.size_alloc] at hQ); obtain ⟨oC, Ay⟩ := iw hb2))
   all_goals go_ret
   all_goals refine ⟨aq (by rw [kX.out]; unfold aJ; simp only [az, he, il, pc h1, mC]; rfl), ?_⟩
   all_goals first | exact (HB _).out | exact (HB _).out.trans (hb1.mono (by simp)) | exact (HB _).out.trans (hb2.mono (by simp)) | exact ((HB _).out.trans (hb1.mono (by simp))).trans (hb2.mono (by omega)) | exact ((HB _).out.trans (hb2.mono (by simp))).trans (hb3.mono (by omega))
 |clear k_d8_1
  all_goals cases h1 : (tn != 0)
  first
  |clear k_d7_0
   all_goals cases h3 : ((T.len : Int) == 0)
   first
   |clear k_d4_0
    all_goals go_enter Tryd.func43, Tryd.ntmps43
    all_goals go_wp2
    all_goals go_ret
    all_goals refine ⟨aq (by rw [kX.out]; unfold aJ; simp only [az, he, pc h1, sF h3]; rfl), ?_⟩
    all_goals first | exact (HB _).out | exact (HB _).out.trans (hb1.mono (by simp)) | exact (HB _).out.trans (hb2.mono (by simp)) | exact ((HB _).out.trans (hb1.mono (by simp))).trans (hb2.mono (by omega)) | exact ((HB _).out.trans (hb2.mono (by simp))).trans (hb3.mono (by omega))
   |clear k_d4_1
    all_goals cases mC : aE (fun i => (T.kids i).eOk) (fun i => (T.kids i).sOk) T.kk T.len ⟨#[101]⟩
    all_goals go_enter Tryd.func43, Tryd.ntmps43
    all_goals go_wp2_with (first | (go_at_call 63; refine (HK.out _ (by first | exact (HB _).out | exact (HB _).out.trans (hb1.mono (by simp)) | exact (HB _).out.trans (hb2.mono (by simp))) ⟨#[101]⟩ (by decide)).mono ?_; rw [mC]; rintro e w2 ⟨rfl, hb2⟩; have hQ := hb2.size; (try simp only [World.size_alloc] at hQ); obtain ⟨oC, Ay⟩ := iw hb2))
    all_goals go_ret
    all_goals refine ⟨aq (by rw [kX.out]; unfold aJ; simp only [az, he, pc h1, sF h3, mC]; rfl), ?_⟩
    all_goals first | exact (HB _).out | exact (HB _).out.trans (hb1.mono (by simp)) | exact (HB _).out.trans (hb2.mono (by simp)) | exact ((HB _).out.trans (hb1.mono (by simp))).trans (hb2.mono (by omega)) | exact ((HB _).out.trans (hb2.mono (by simp))).trans (hb3.mono (by omega))
  |clear k_d7_1
   first
   |clear k_d6_0
    all_goals cases mC : aE (fun i => (T.kids i).eOk) (fun i => (T.kids i).sOk) T.kk T.len ⟨#[101, 101]⟩
    all_goals go_enter Tryd.func43, Tryd.ntmps43
    all_goals go_wp2_with (first | (go_at_call 63; refine (HK.out _ (by first | exact (HB _).out | exact (HB _).out.trans (hb1.mono (by simp)) | exact (HB _).out.trans (hb2.mono (by simp))) ⟨#[101, 101]⟩ (by decide)).mono ?_; rw [mC]; rintro e w2 ⟨rfl, hb2⟩; have hQ := hb2.size; (try simp only [World.size_alloc] at hQ); obtain ⟨oC, Ay⟩ := iw hb2))
    all_goals go_ret
    all_goals refine ⟨aq (by rw [kX.out]; unfold aJ; simp only [az, he, pc h1, mC]; rfl), ?_⟩
    all_goals first | exact (HB _).out | exact (HB _).out.trans (hb1.mono (by simp)) | exact (HB _).out.trans (hb2.mono (by simp)) | exact ((HB _).out.trans (hb1.mono (by simp))).trans (hb2.mono (by omega)) | exact ((HB _).out.trans (hb2.mono (by simp))).trans (hb3.mono (by omega))
   |clear k_d6_1
    all_goals cases mC : aE (fun i => (T.kids i).eOk) (fun i => (T.kids i).sOk) T.kk T.len ⟨#[101]⟩
    all_goals go_enter Tryd.func43, Tryd.ntmps43
    all_goals go_wp2_with (first | (go_at_call 63; refine (HK.out _ (by first | exact (HB _).out | exact (HB _).out.trans (hb1.mono (by simp)) | exact (HB _).out.trans (hb2.mono (by simp))) ⟨#[101]⟩ (by decide)).mono ?_; rw [mC]; rintro e w2 ⟨rfl, hb2⟩; have hQ := hb2.size; (try simp only [World.size_alloc] at hQ); obtain ⟨oC, Ay⟩ := iw hb2))
    all_goals go_ret
    all_goals refine ⟨aq (by rw [kX.out]; unfold aJ; simp only [az, he, pc h1, mC]; rfl), ?_⟩
    all_goals first | exact (HB _).out | exact (HB _).out.trans (hb1.mono (by simp)) | exact (HB _).out.trans (hb2.mono (by simp)) | exact ((HB _).out.trans (hb1.mono (by simp))).trans (hb2.mono (by omega)) | exact ((HB _).out.trans (hb2.mono (by simp))).trans (hb3.mono (by omega))
   |clear k_d6_2
    all_goals cases mC : aE (fun i => (T.kids i).eOk) (fun i => (T.kids i).sOk) T.kk T.len ⟨#[99]⟩
    all_goals go_enter Tryd.func43, Tryd.ntmps43
    all_goals go_wp2_with (first | (go_at_call 63; refine (HK.out _ (by first | exact (HB _).out | exact (HB _).out.trans (hb1.mono (by simp)) | exact (HB _).out.trans (hb2.mono (by simp))) ⟨#[99]⟩ (by decide)).mono ?_; rw [mC]; rintro e w2 ⟨rfl, hb2⟩; have hQ := hb2.size; (try simp only [World.size_alloc] at hQ); obtain ⟨oC, Ay⟩ := iw hb2))
    all_goals go_ret
    all_goals refine ⟨aq (by rw [kX.out]; unfold aJ; simp only [az, he, pc h1, mC]; rfl), ?_⟩
    all_goals first | exact (HB _).out | exact (HB _).out.trans (hb1.mono (by simp)) | exact (HB _).out.trans (hb2.mono (by simp)) | exact ((HB _).out.trans (hb1.mono (by simp))).trans (hb2.mono (by omega)) | exact ((HB _).out.trans (hb2.mono (by simp))).trans (hb3.mono (by omega))) : G := h
theorem Nw (T : Nd) (hk : T.kind = 5) (hE : gL T) (hK : iG T) : ic T := by
 intro w v hi hf gW hr
 have hn := T.fine_len hf
 have hs := T.fine_name hf
 obtain ⟨a, cap, hv, _, hq⟩ := ar.1 hr
 have kX : Hid (T.sOk = aJ 5 T.num T.name T.len (fun i => (T.kids i).eOk) (fun i => (T.kids i).sOk) (fun i => (T.kids i).cOk) T.kk) := by have := aG T; rw [hk] at this; exact this
 exact bd0
theorem Nv (T : Nd) (hk : T.kind = 6) (hE : gL T) (hK : iG T) : ic T := by
 intro w v hi hf gW hr
 have hn := T.fine_len hf
 have hs := T.fine_name hf
 obtain ⟨a, cap, hv, _, hq⟩ := ar.1 hr
 have kX : Hid (T.sOk = aJ 6 T.num T.name T.len (fun i => (T.kids i).eOk) (fun i => (T.kids i).sOk) (fun i => (T.kids i).cOk) T.kk) := by have := aG T; rw [hk] at this; exact this
 exact bd0
theorem Nu (T : Nd) (hk : T.kind = 7) (hE : gL T) (hK : iG T) : ic T := by
 intro w v hi hf gW hr
 have hn := T.fine_len hf
 have hs := T.fine_name hf
 obtain ⟨a, cap, hv, _, hq⟩ := ar.1 hr
 have kX : Hid (T.sOk = aJ 7 T.num T.name T.len (fun i => (T.kids i).eOk) (fun i => (T.kids i).sOk) (fun i => (T.kids i).cOk) T.kk) := by have := aG T; rw [hk] at this; exact this
 have k_d5_0 := kk
 exact bd5
theorem Nt (T : Nd) (hk : T.kind = 8) (hE : gL T) (hK : iG T) : ic T := by
 intro w v hi hf gW hr
 have hn := T.fine_len hf
 have hs := T.fine_name hf
 obtain ⟨a, cap, hv, _, hq⟩ := ar.1 hr
 have kX : Hid (T.sOk = aJ 8 T.num T.name T.len (fun i => (T.kids i).eOk) (fun i => (T.kids i).sOk) (fun i => (T.kids i).cOk) T.kk) := by have := aG T; rw [hk] at this; exact this
 have k_d6_0 := kk
 exact bd6
theorem JR (T : Nd) (hk : T.kind = 17) (hE : gL T) (hK : iG T) : ic T := by
 intro w v hi hf gW hr
 have hn := T.fine_len hf
 have hs := T.fine_name hf
 obtain ⟨a, cap, hv, _, hq⟩ := ar.1 hr
 have kX : Hid (T.sOk = aJ 17 T.num T.name T.len (fun i => (T.kids i).eOk) (fun i => (T.kids i).sOk) (fun i => (T.kids i).cOk) T.kk) := by have := aG T; rw [hk] at this; exact this
 exact bd3
theorem JP (T : Nd) (hk : T.kind = 19) (hE : gL T) (hK : iG T) : ic T := by
 intro w v hi hf gW hr
 have hn := T.fine_len hf
 have hs := T.fine_name hf
 obtain ⟨a, cap, hv, _, hq⟩ := ar.1 hr
 have kX : Hid (T.sOk = aJ 19 T.num T.name T.len (fun i => (T.kids i).eOk) (fun i => (T.kids i).sOk) (fun i => (T.kids i).cOk) T.kk) := by have := aG T; rw [hk] at this; exact this
 exact bd1
theorem JO (T : Nd) (hk : T.kind = 20) (hE : gL T) (hK : iG T) : ic T := by
 intro w v hi hf gW hr
 have hn := T.fine_len hf
 have hs := T.fine_name hf
 obtain ⟨a, cap, hv, _, hq⟩ := ar.1 hr
 have kX : Hid (T.sOk = aJ 20 T.num T.name T.len (fun i => (T.kids i).eOk) (fun i => (T.kids i).sOk) (fun i => (T.kids i).cOk) T.kk) := by have := aG T; rw [hk] at this; exact this
 exact bd1
theorem JN (T : Nd) (hk : T.kind = 21) (hE : gL T) (hK : iG T) : ic T := by
 intro w v hi hf gW hr
 have hn := T.fine_len hf
 have hs := T.fine_name hf
 obtain ⟨a, cap, hv, _, hq⟩ := ar.1 hr
 have kX : Hid (T.sOk = aJ 21 T.num T.name T.len (fun i => (T.kids i).eOk) (fun i => (T.kids i).sOk) (fun i => (T.kids i).cOk) T.kk) := by have := aG T; rw [hk] at this; exact this
 exact bd1
theorem JQ (T : Nd) (hk : T.kind = 18) (hE : gL T) (hK : iG T) : ic T := by
 intro w v hi hf gW hr
 have hn := T.fine_len hf
 have hs := T.fine_name hf
 obtain ⟨a, cap, hv, _, hq⟩ := ar.1 hr
 have kX : Hid (T.sOk = aJ 18 T.num T.name T.len (fun i => (T.kids i).eOk) (fun i => (T.kids i).sOk) (fun i => (T.kids i).cOk) T.kk) := by have := aG T; rw [hk] at this; exact this
 exact bd3
theorem JU (T : Nd) (hk : T.kind = 13) (hE : gL T) (hK : iG T) : ic T := by
 intro w v hi hf gW hr
 have hn := T.fine_len hf
 have hs := T.fine_name hf
 obtain ⟨a, cap, hv, _, hq⟩ := ar.1 hr
 have kX : Hid (T.sOk = aJ 13 T.num T.name T.len (fun i => (T.kids i).eOk) (fun i => (T.kids i).sOk) (fun i => (T.kids i).cOk) T.kk) := by have := aG T; rw [hk] at this; exact this
 exact bd2
theorem JT (T : Nd) (hk : T.kind = 14) (hE : gL T) (hK : iG T) : ic T := by
 intro w v hi hf gW hr
 have hn := T.fine_len hf
 have hs := T.fine_name hf
 obtain ⟨a, cap, hv, _, hq⟩ := ar.1 hr
 have kX : Hid (T.sOk = aJ 14 T.num T.name T.len (fun i => (T.kids i).eOk) (fun i => (T.kids i).sOk) (fun i => (T.kids i).cOk) T.kk) := by have := aG T; rw [hk] at this; exact this
 exact bd2
theorem JV (T : Nd) (hk : T.kind = 12) (hE : gL T) (hK : iG T) : ic T := by
 intro w v hi hf gW hr
 have hn := T.fine_len hf
 have hs := T.fine_name hf
 obtain ⟨a, cap, hv, _, hq⟩ := ar.1 hr
 have kX : Hid (T.sOk = aJ 12 T.num T.name T.len (fun i => (T.kids i).eOk) (fun i => (T.kids i).sOk) (fun i => (T.kids i).cOk) T.kk) := by have := aG T; rw [hk] at this; exact this
 have k_d4_1 := kk
 exact bd4
end Go.Proofs.YtkfbbdhidecefaaDoor
