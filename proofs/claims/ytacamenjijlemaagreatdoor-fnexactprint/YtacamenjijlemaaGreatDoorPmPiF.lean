/- The program's printer: if and for. -/
import Derived.Test.YtacamenjijlemaaGreatDoorPmPiA
import Derived.Test.YtacamenjijlemaaGreatDoorPmPiE
import Derived.Deep.RegionHeld3
import Derived.StillTailTactics
import Derived.WalkSpells
import Derived.WalkSmall
import Derived.Test.YtacamenjijlemaaGreatDoorPmPrE
set_option linter.unusedVariables false
namespace Go.Proofs.YtacamenjijlemaaGreatDoor
open Go.RowKit
theorem zero_only {P : Nat → Prop} (h : P 0) : ∀ i, i < 1 → P i := fun i hi => by
  have : i = 0 := by omega
  rw [this]; exact h

set_option maxHeartbeats 4000000 in
set_option maxRecDepth 100000 in
theorem if_two (T : Nd) (hW0 : IW 83 (T.kids 0) (fun _ => (prN (T.kids 0)).ex 1)) (hB1 : IW 40 (T.kids 1) (fun d => blockT d ((prN (T.kids 1)).sts (d + 1)))) (h0 : T.len = 2) : IW 84 T (fun d => [105, 102, 32] ++ ((prN (T.kids 0)).ex 1 ++ (32 :: (blockT d ((prN (T.kids 1)).sts (d + 1)) ++ [])))) := by
  intro pb own X d b w v hbuf hg hf hr hb
  have hn := T.fine_len hf
  obtain ⟨g, off, cap, rfl, hgp, hcap, hkid⟩ := kid_at hr (by omega)
  obtain ⟨u0, hc0, hr0⟩ := hkid 0 (by omega)
  simp only [Nat.zero_mul, Nat.add_zero] at hc0
  have hlt0 : 0 < T.len := by omega
  obtain ⟨u1, hc1, hr1⟩ := hkid 1 (by omega)
  simp only [Nat.one_mul] at hc1
  have hlt1 : 1 < T.len := by omega
  have hval : T.val (.slice (some ⟨g, off, none⟩) T.len cap) = .agg #[.int .i64 T.kind, .int .i64 T.num, .string T.name, .slice (some ⟨g, off, none⟩) 2 cap] := by unfold Nd.val; rw [h0]
  rw [hval]
  have hb0 : Below w.heap.size w (w.alloc (.cells #[.int .i64 T.kind, .int .i64 T.num, .string T.name, .slice (some ⟨g, off, none⟩) 2 cap] 30)) := ((Below.refl w.heap.size w).alloc (Nat.le_refl _) _)
  have HP := hid_mk (IPst.startOn hbuf hb0)
  have HN := hid_mk (fun d' b' Y W (h : IPst pb own (w.alloc (.cells #[.int .i64 T.kind, .int .i64 T.num, .string T.name, .slice (some ⟨g, off, none⟩) 2 cap] 30)) d' b' Y W) => (show W.cell? ⟨w.heap.size, 0, none⟩ = some (.int .i64 T.kind) ∧ W.cell? ⟨w.heap.size, 1, none⟩ = some (.int .i64 T.num) ∧ W.cell? ⟨w.heap.size, 2, none⟩ = some (.string T.name) ∧ W.cell? ⟨w.heap.size, 3, none⟩ = some (.slice (some ⟨g, off, none⟩) 2 cap) by
    have e := h.kept hbuf w.heap.size (Nat.le_refl _) (by simp)
    rw [e, e, e, e]; refine ⟨?_, ?_, ?_, ?_⟩ <;> simp [go_sem]))
  have HG := hid_mk (gl_on hbuf hb0 hg)
  have HB0 := hid_mk hb0
  have HC0 := hid_mk (fun d' b' Y W (h : IPst pb own (w.alloc (.cells #[.int .i64 T.kind, .int .i64 T.num, .string T.name, .slice (some ⟨g, off, none⟩) 2 cap] 30)) d' b' Y W) => hc0 W (h.belowOn hbuf hb0))
  have HR0 := hid_mk (row_on hbuf hb0 hr0)
  have HF0 := hid_mk (Nd.fine_kid hf hlt0)
  have HC1 := hid_mk (fun d' b' Y W (h : IPst pb own (w.alloc (.cells #[.int .i64 T.kind, .int .i64 T.num, .string T.name, .slice (some ⟨g, off, none⟩) 2 cap] 30)) d' b' Y W) => hc1 W (h.belowOn hbuf hb0))
  have HR1 := hid_mk (row_on hbuf hb0 hr1)
  have HF1 := hid_mk (Nd.fine_kid hf hlt1)
  have hcp1 : 2 ≤ cap := by omega
  have hcp2 : cap ≤ 9223372036854775807 := by omega
  have HWD := hid_mk (fun b' Y W (h : IPst pb own (w.alloc (.cells #[.int .i64 T.kind, .int .i64 T.num, .string T.name, .slice (some ⟨g, off, none⟩) 2 cap] 30)) d b' Y W) hb => h.worded ⟨#[105, 102]⟩ (show 1 ≤ T.len by omega) (zero_only (P := fun i => IW 83 (T.kids i) (fun _ => (prN (T.kids i)).ex 1)) hW0) (some ⟨g, off, none⟩) cap (gl_on hbuf hb0 hg) hf (row_on hbuf hb0 hr) hb)
  have HB := hid_mk hb
  obtain ⟨c00, c01, c02, c03⟩ := HC0.out _ _ _ _ HP.out
  obtain ⟨c10, c11, c12, c13⟩ := HC1.out _ _ _ _ HP.out
  have HBK1 := hid_mk hB1
  simp only [catTo, List.nil_append] at HWD
  clear hW0 hB1 h0 hlt0 hlt1 hb hr hf hbuf hg hval hb0 hc0 hr0 hc1 hr1 hkid hcap
  generalize T.kids 0 = K0 at *
  generalize T.kids 1 = K1 at *
  generalize T.kind = tk at *
  generalize T.name = ts at *
  generalize T.num = tn at *
  go_enter Tryz.func84, Tryz.ntmps84
  go_wp2_with (first
    | (go_at_call 86; refine (HWD.out _ _ _ HP.out (by have := HB.out; simp at this ⊢; omega)).mono ?_; rintro e w2 ⟨⟨r, rfl⟩, hp⟩; obtain ⟨b0, b1, b2, b3⟩ := HN.out _ _ _ _ hp; obtain ⟨c00, c01, c02, c03⟩ := HC0.out _ _ _ _ hp; obtain ⟨c10, c11, c12, c13⟩ := HC1.out _ _ _ _ hp; have HP := hid_mk hp; clear hp)
    | (go_at_call_of 37 w2; refine (HP.out.putAt [⟨#[32]⟩] _ 1 _ (by simp) rfl rfl (by decide) (by have := HB.out; simp [txt] at this ⊢; omega)).mono ?_; rintro e w3 ⟨⟨r, rfl⟩, hp⟩; obtain ⟨b0, b1, b2, b3⟩ := HN.out _ _ _ _ hp; obtain ⟨c00, c01, c02, c03⟩ := HC0.out _ _ _ _ hp; obtain ⟨c10, c11, c12, c13⟩ := HC1.out _ _ _ _ hp; have HP := hid_mk hp; clear hp)
    | (go_at_call_of 40 u1; refine (HP.out.fn HBK1.out u1 HG.out HF1.out HR1.out (by have := HB.out; simp [txt] at this ⊢; omega)).mono ?_; rintro e w4 ⟨⟨r, rfl⟩, hp⟩; obtain ⟨b0, b1, b2, b3⟩ := HN.out _ _ _ _ hp; obtain ⟨c00, c01, c02, c03⟩ := HC0.out _ _ _ _ hp; obtain ⟨c10, c11, c12, c13⟩ := HC1.out _ _ _ _ hp; have HP := hid_mk hp; clear hp))
  go_end0
  exact IPst.addsOn HB0.out HP.out (by simp [txt]) _

set_option maxHeartbeats 4000000 in
set_option maxRecDepth 100000 in
theorem if_three (T : Nd) (hW0 : IW 83 (T.kids 0) (fun _ => (prN (T.kids 0)).ex 1)) (hB1 : IW 40 (T.kids 1) (fun d => blockT d ((prN (T.kids 1)).sts (d + 1)))) (hS2 : IW 71 (T.kids 2) (fun d => (prN (T.kids 2)).st d)) (h0 : T.len = 3) : IW 84 T (fun d => [105, 102, 32] ++ ((prN (T.kids 0)).ex 1 ++ (32 :: (blockT d ((prN (T.kids 1)).sts (d + 1)) ++ ([32, 101, 108, 115, 101, 32] ++ (prN (T.kids 2)).st d))))) := by
  intro pb own X d b w v hbuf hg hf hr hb
  have hn := T.fine_len hf
  obtain ⟨g, off, cap, rfl, hgp, hcap, hkid⟩ := kid_at hr (by omega)
  obtain ⟨u0, hc0, hr0⟩ := hkid 0 (by omega)
  simp only [Nat.zero_mul, Nat.add_zero] at hc0
  have hlt0 : 0 < T.len := by omega
  obtain ⟨u1, hc1, hr1⟩ := hkid 1 (by omega)
  simp only [Nat.one_mul] at hc1
  have hlt1 : 1 < T.len := by omega
  obtain ⟨u2, hc2, hr2⟩ := hkid 2 (by omega)
  simp only [Nat.reduceMul] at hc2
  have hlt2 : 2 < T.len := by omega
  have hval : T.val (.slice (some ⟨g, off, none⟩) T.len cap) = .agg #[.int .i64 T.kind, .int .i64 T.num, .string T.name, .slice (some ⟨g, off, none⟩) 3 cap] := by unfold Nd.val; rw [h0]
  rw [hval]
  have hb0 : Below w.heap.size w (w.alloc (.cells #[.int .i64 T.kind, .int .i64 T.num, .string T.name, .slice (some ⟨g, off, none⟩) 3 cap] 30)) := ((Below.refl w.heap.size w).alloc (Nat.le_refl _) _)
  have HP := hid_mk (IPst.startOn hbuf hb0)
  have HN := hid_mk (fun d' b' Y W (h : IPst pb own (w.alloc (.cells #[.int .i64 T.kind, .int .i64 T.num, .string T.name, .slice (some ⟨g, off, none⟩) 3 cap] 30)) d' b' Y W) => (show W.cell? ⟨w.heap.size, 0, none⟩ = some (.int .i64 T.kind) ∧ W.cell? ⟨w.heap.size, 1, none⟩ = some (.int .i64 T.num) ∧ W.cell? ⟨w.heap.size, 2, none⟩ = some (.string T.name) ∧ W.cell? ⟨w.heap.size, 3, none⟩ = some (.slice (some ⟨g, off, none⟩) 3 cap) by
    have e := h.kept hbuf w.heap.size (Nat.le_refl _) (by simp)
    rw [e, e, e, e]; refine ⟨?_, ?_, ?_, ?_⟩ <;> simp [go_sem]))
  have HG := hid_mk (gl_on hbuf hb0 hg)
  have HB0 := hid_mk hb0
  have HC0 := hid_mk (fun d' b' Y W (h : IPst pb own (w.alloc (.cells #[.int .i64 T.kind, .int .i64 T.num, .string T.name, .slice (some ⟨g, off, none⟩) 3 cap] 30)) d' b' Y W) => hc0 W (h.belowOn hbuf hb0))
  have HR0 := hid_mk (row_on hbuf hb0 hr0)
  have HF0 := hid_mk (Nd.fine_kid hf hlt0)
  have HC1 := hid_mk (fun d' b' Y W (h : IPst pb own (w.alloc (.cells #[.int .i64 T.kind, .int .i64 T.num, .string T.name, .slice (some ⟨g, off, none⟩) 3 cap] 30)) d' b' Y W) => hc1 W (h.belowOn hbuf hb0))
  have HR1 := hid_mk (row_on hbuf hb0 hr1)
  have HF1 := hid_mk (Nd.fine_kid hf hlt1)
  have HC2 := hid_mk (fun d' b' Y W (h : IPst pb own (w.alloc (.cells #[.int .i64 T.kind, .int .i64 T.num, .string T.name, .slice (some ⟨g, off, none⟩) 3 cap] 30)) d' b' Y W) => hc2 W (h.belowOn hbuf hb0))
  have HR2 := hid_mk (row_on hbuf hb0 hr2)
  have HF2 := hid_mk (Nd.fine_kid hf hlt2)
  have hcp1 : 3 ≤ cap := by omega
  have hcp2 : cap ≤ 9223372036854775807 := by omega
  have HWD := hid_mk (fun b' Y W (h : IPst pb own (w.alloc (.cells #[.int .i64 T.kind, .int .i64 T.num, .string T.name, .slice (some ⟨g, off, none⟩) 3 cap] 30)) d b' Y W) hb => h.worded ⟨#[105, 102]⟩ (show 1 ≤ T.len by omega) (zero_only (P := fun i => IW 83 (T.kids i) (fun _ => (prN (T.kids i)).ex 1)) hW0) (some ⟨g, off, none⟩) cap (gl_on hbuf hb0 hg) hf (row_on hbuf hb0 hr) hb)
  have HB := hid_mk hb
  obtain ⟨c00, c01, c02, c03⟩ := HC0.out _ _ _ _ HP.out
  obtain ⟨c10, c11, c12, c13⟩ := HC1.out _ _ _ _ HP.out
  obtain ⟨c20, c21, c22, c23⟩ := HC2.out _ _ _ _ HP.out
  have HBK1 := hid_mk hB1
  have HS2 := hid_mk hS2
  simp only [catTo, List.nil_append] at HWD
  clear hW0 hB1 hS2 h0 hlt0 hlt1 hlt2 hb hr hf hbuf hg hval hb0 hc0 hr0 hc1 hr1 hc2 hr2 hkid hcap
  generalize T.kids 0 = K0 at *
  generalize T.kids 1 = K1 at *
  generalize T.kids 2 = K2 at *
  generalize T.kind = tk at *
  generalize T.name = ts at *
  generalize T.num = tn at *
  go_enter Tryz.func84, Tryz.ntmps84
  go_wp2_with (first
    | (go_at_call 86; refine (HWD.out _ _ _ HP.out (by have := HB.out; simp at this ⊢; omega)).mono ?_; rintro e w2 ⟨⟨r, rfl⟩, hp⟩; obtain ⟨b0, b1, b2, b3⟩ := HN.out _ _ _ _ hp; obtain ⟨c00, c01, c02, c03⟩ := HC0.out _ _ _ _ hp; obtain ⟨c10, c11, c12, c13⟩ := HC1.out _ _ _ _ hp; obtain ⟨c20, c21, c22, c23⟩ := HC2.out _ _ _ _ hp; have HP := hid_mk hp; clear hp)
    | (go_at_call_of 37 w2; refine (HP.out.putAt [⟨#[32]⟩] _ 1 _ (by simp) rfl rfl (by decide) (by have := HB.out; simp [txt] at this ⊢; omega)).mono ?_; rintro e w3 ⟨⟨r, rfl⟩, hp⟩; obtain ⟨b0, b1, b2, b3⟩ := HN.out _ _ _ _ hp; obtain ⟨c00, c01, c02, c03⟩ := HC0.out _ _ _ _ hp; obtain ⟨c10, c11, c12, c13⟩ := HC1.out _ _ _ _ hp; obtain ⟨c20, c21, c22, c23⟩ := HC2.out _ _ _ _ hp; have HP := hid_mk hp; clear hp)
    | (go_at_call_of 40 u1; refine (HP.out.fn HBK1.out u1 HG.out HF1.out HR1.out (by have := HB.out; simp [txt] at this ⊢; omega)).mono ?_; rintro e w4 ⟨⟨r, rfl⟩, hp⟩; obtain ⟨b0, b1, b2, b3⟩ := HN.out _ _ _ _ hp; obtain ⟨c00, c01, c02, c03⟩ := HC0.out _ _ _ _ hp; obtain ⟨c10, c11, c12, c13⟩ := HC1.out _ _ _ _ hp; obtain ⟨c20, c21, c22, c23⟩ := HC2.out _ _ _ _ hp; have HP := hid_mk hp; clear hp)
    | (go_at_call_of 37 w4; refine (HP.out.putAt [⟨#[32, 101, 108, 115, 101, 32]⟩] _ 1 _ (by simp) rfl rfl (by decide) (by have := HB.out; simp [txt] at this ⊢; omega)).mono ?_; rintro e w5 ⟨⟨r, rfl⟩, hp⟩; obtain ⟨b0, b1, b2, b3⟩ := HN.out _ _ _ _ hp; obtain ⟨c00, c01, c02, c03⟩ := HC0.out _ _ _ _ hp; obtain ⟨c10, c11, c12, c13⟩ := HC1.out _ _ _ _ hp; obtain ⟨c20, c21, c22, c23⟩ := HC2.out _ _ _ _ hp; have HP := hid_mk hp; clear hp)
    | (go_at_call_of 71 u2; refine (HP.out.fn HS2.out u2 HG.out HF2.out HR2.out (by have := HB.out; simp [txt] at this ⊢; omega)).mono ?_; rintro e w6 ⟨⟨r, rfl⟩, hp⟩; obtain ⟨b0, b1, b2, b3⟩ := HN.out _ _ _ _ hp; obtain ⟨c00, c01, c02, c03⟩ := HC0.out _ _ _ _ hp; obtain ⟨c10, c11, c12, c13⟩ := HC1.out _ _ _ _ hp; obtain ⟨c20, c21, c22, c23⟩ := HC2.out _ _ _ _ hp; have HP := hid_mk hp; clear hp))
  go_end0
  exact IPst.addsOn HB0.out HP.out (by simp [txt]) _

set_option maxHeartbeats 4000000 in
set_option maxRecDepth 100000 in
theorem for_one (T : Nd) (hB : IW 40 (T.kids 0) (fun d => blockT d ((prN (T.kids 0)).sts (d + 1)))) (h0 : T.len = 1) : IW 85 T (fun d => [102, 111, 114, 32] ++ blockT d ((prN (T.kids 0)).sts (d + 1))) := by
  intro pb own X d b w v hbuf hg hf hr hb
  have hn := T.fine_len hf
  obtain ⟨g, off, cap, rfl, hgp, hcap, hkid⟩ := kid_at hr (by omega)
  obtain ⟨u0, hc0, hr0⟩ := hkid 0 (by omega)
  simp only [Nat.zero_mul, Nat.add_zero] at hc0
  have hlt0 : 0 < T.len := by omega
  have hval : T.val (.slice (some ⟨g, off, none⟩) T.len cap) = .agg #[.int .i64 T.kind, .int .i64 T.num, .string T.name, .slice (some ⟨g, off, none⟩) 1 cap] := by unfold Nd.val; rw [h0]
  rw [hval]
  have hb0 : Below w.heap.size w (w.alloc (.cells #[.int .i64 T.kind, .int .i64 T.num, .string T.name, .slice (some ⟨g, off, none⟩) 1 cap] 30)) := ((Below.refl w.heap.size w).alloc (Nat.le_refl _) _)
  have HP := hid_mk (IPst.startOn hbuf hb0)
  have HN := hid_mk (fun d' b' Y W (h : IPst pb own (w.alloc (.cells #[.int .i64 T.kind, .int .i64 T.num, .string T.name, .slice (some ⟨g, off, none⟩) 1 cap] 30)) d' b' Y W) => (show W.cell? ⟨w.heap.size, 0, none⟩ = some (.int .i64 T.kind) ∧ W.cell? ⟨w.heap.size, 1, none⟩ = some (.int .i64 T.num) ∧ W.cell? ⟨w.heap.size, 2, none⟩ = some (.string T.name) ∧ W.cell? ⟨w.heap.size, 3, none⟩ = some (.slice (some ⟨g, off, none⟩) 1 cap) by
    have e := h.kept hbuf w.heap.size (Nat.le_refl _) (by simp)
    rw [e, e, e, e]; refine ⟨?_, ?_, ?_, ?_⟩ <;> simp [go_sem]))
  have HG := hid_mk (gl_on hbuf hb0 hg)
  have HB0 := hid_mk hb0
  have HC0 := hid_mk (fun d' b' Y W (h : IPst pb own (w.alloc (.cells #[.int .i64 T.kind, .int .i64 T.num, .string T.name, .slice (some ⟨g, off, none⟩) 1 cap] 30)) d' b' Y W) => hc0 W (h.belowOn hbuf hb0))
  have HR0 := hid_mk (row_on hbuf hb0 hr0)
  have HF0 := hid_mk (Nd.fine_kid hf hlt0)
  have hcp1 : 1 ≤ cap := by omega
  have hcp2 : cap ≤ 9223372036854775807 := by omega
  have HWD := hid_mk (fun b' Y W (h : IPst pb own (w.alloc (.cells #[.int .i64 T.kind, .int .i64 T.num, .string T.name, .slice (some ⟨g, off, none⟩) 1 cap] 30)) d b' Y W) hb => h.worded ⟨#[102, 111, 114]⟩ (show 0 ≤ T.len by omega) (fun i hi => by omega) (some ⟨g, off, none⟩) cap (gl_on hbuf hb0 hg) hf (row_on hbuf hb0 hr) hb)
  have HB := hid_mk hb
  obtain ⟨c00, c01, c02, c03⟩ := HC0.out _ _ _ _ HP.out
  have HBK0 := hid_mk hB
  simp only [catTo, List.append_nil] at HWD
  clear hB h0 hlt0 hb hr hf hbuf hg hval hb0 hc0 hr0 hkid hcap
  generalize T.kids 0 = K0 at *
  generalize T.kind = tk at *
  generalize T.name = ts at *
  generalize T.num = tn at *
  go_enter Tryz.func85, Tryz.ntmps85
  go_wp2_with (first
    | (go_at_call 86; refine (HWD.out _ _ _ HP.out (by have := HB.out; simp at this ⊢; omega)).mono ?_; rintro e w2 ⟨⟨r, rfl⟩, hp⟩; obtain ⟨b0, b1, b2, b3⟩ := HN.out _ _ _ _ hp; obtain ⟨c00, c01, c02, c03⟩ := HC0.out _ _ _ _ hp; have HP := hid_mk hp; clear hp)
    | (go_at_call_of 37 w2; refine (HP.out.putAt [⟨#[32]⟩] _ 1 _ (by simp) rfl rfl (by decide) (by have := HB.out; simp [txt] at this ⊢; omega)).mono ?_; rintro e w3 ⟨⟨r, rfl⟩, hp⟩; obtain ⟨b0, b1, b2, b3⟩ := HN.out _ _ _ _ hp; obtain ⟨c00, c01, c02, c03⟩ := HC0.out _ _ _ _ hp; have HP := hid_mk hp; clear hp)
    | (go_at_call_of 40 u0; refine (HP.out.fn HBK0.out u0 HG.out HF0.out HR0.out (by have := HB.out; simp [txt] at this ⊢; omega)).mono ?_; rintro e w4 ⟨⟨r, rfl⟩, hp⟩; obtain ⟨b0, b1, b2, b3⟩ := HN.out _ _ _ _ hp; obtain ⟨c00, c01, c02, c03⟩ := HC0.out _ _ _ _ hp; have HP := hid_mk hp; clear hp))
  go_end0
  exact IPst.addsOn HB0.out HP.out (by simp [txt]) _

set_option maxHeartbeats 4000000 in
set_option maxRecDepth 100000 in
theorem for_two (T : Nd) (hW0 : IW 83 (T.kids 0) (fun _ => (prN (T.kids 0)).ex 1)) (hB : IW 40 (T.kids 1) (fun d => blockT d ((prN (T.kids 1)).sts (d + 1)))) (h0 : T.len = 2) : IW 85 T (fun d => [102, 111, 114, 32] ++ ((prN (T.kids 0)).ex 1 ++ ([32] ++ blockT d ((prN (T.kids 1)).sts (d + 1))))) := by
  intro pb own X d b w v hbuf hg hf hr hb
  have hn := T.fine_len hf
  obtain ⟨g, off, cap, rfl, hgp, hcap, hkid⟩ := kid_at hr (by omega)
  obtain ⟨u0, hc0, hr0⟩ := hkid 0 (by omega)
  simp only [Nat.zero_mul, Nat.add_zero] at hc0
  have hlt0 : 0 < T.len := by omega
  obtain ⟨u1, hc1, hr1⟩ := hkid 1 (by omega)
  simp only [Nat.one_mul] at hc1
  have hlt1 : 1 < T.len := by omega
  have hval : T.val (.slice (some ⟨g, off, none⟩) T.len cap) = .agg #[.int .i64 T.kind, .int .i64 T.num, .string T.name, .slice (some ⟨g, off, none⟩) 2 cap] := by unfold Nd.val; rw [h0]
  rw [hval]
  have hb0 : Below w.heap.size w (w.alloc (.cells #[.int .i64 T.kind, .int .i64 T.num, .string T.name, .slice (some ⟨g, off, none⟩) 2 cap] 30)) := ((Below.refl w.heap.size w).alloc (Nat.le_refl _) _)
  have HP := hid_mk (IPst.startOn hbuf hb0)
  have HN := hid_mk (fun d' b' Y W (h : IPst pb own (w.alloc (.cells #[.int .i64 T.kind, .int .i64 T.num, .string T.name, .slice (some ⟨g, off, none⟩) 2 cap] 30)) d' b' Y W) => (show W.cell? ⟨w.heap.size, 0, none⟩ = some (.int .i64 T.kind) ∧ W.cell? ⟨w.heap.size, 1, none⟩ = some (.int .i64 T.num) ∧ W.cell? ⟨w.heap.size, 2, none⟩ = some (.string T.name) ∧ W.cell? ⟨w.heap.size, 3, none⟩ = some (.slice (some ⟨g, off, none⟩) 2 cap) by
    have e := h.kept hbuf w.heap.size (Nat.le_refl _) (by simp)
    rw [e, e, e, e]; refine ⟨?_, ?_, ?_, ?_⟩ <;> simp [go_sem]))
  have HG := hid_mk (gl_on hbuf hb0 hg)
  have HB0 := hid_mk hb0
  have HC0 := hid_mk (fun d' b' Y W (h : IPst pb own (w.alloc (.cells #[.int .i64 T.kind, .int .i64 T.num, .string T.name, .slice (some ⟨g, off, none⟩) 2 cap] 30)) d' b' Y W) => hc0 W (h.belowOn hbuf hb0))
  have HR0 := hid_mk (row_on hbuf hb0 hr0)
  have HF0 := hid_mk (Nd.fine_kid hf hlt0)
  have HC1 := hid_mk (fun d' b' Y W (h : IPst pb own (w.alloc (.cells #[.int .i64 T.kind, .int .i64 T.num, .string T.name, .slice (some ⟨g, off, none⟩) 2 cap] 30)) d' b' Y W) => hc1 W (h.belowOn hbuf hb0))
  have HR1 := hid_mk (row_on hbuf hb0 hr1)
  have HF1 := hid_mk (Nd.fine_kid hf hlt1)
  have hcp1 : 2 ≤ cap := by omega
  have hcp2 : cap ≤ 9223372036854775807 := by omega
  have HWD := hid_mk (fun b' Y W (h : IPst pb own (w.alloc (.cells #[.int .i64 T.kind, .int .i64 T.num, .string T.name, .slice (some ⟨g, off, none⟩) 2 cap] 30)) d b' Y W) hb => h.worded ⟨#[102, 111, 114]⟩ (show 1 ≤ T.len by omega) (zero_only (P := fun i => IW 83 (T.kids i) (fun _ => (prN (T.kids i)).ex 1)) hW0) (some ⟨g, off, none⟩) cap (gl_on hbuf hb0 hg) hf (row_on hbuf hb0 hr) hb)
  have HB := hid_mk hb
  obtain ⟨c00, c01, c02, c03⟩ := HC0.out _ _ _ _ HP.out
  obtain ⟨c10, c11, c12, c13⟩ := HC1.out _ _ _ _ HP.out
  have HBK1 := hid_mk hB
  simp only [catTo, List.nil_append] at HWD
  clear hW0 hB h0 hlt0 hlt1 hb hr hf hbuf hg hval hb0 hc0 hr0 hc1 hr1 hkid hcap
  generalize T.kids 0 = K0 at *
  generalize T.kids 1 = K1 at *
  generalize T.kind = tk at *
  generalize T.name = ts at *
  generalize T.num = tn at *
  go_enter Tryz.func85, Tryz.ntmps85
  go_wp2_with (first
    | (go_at_call 86; refine (HWD.out _ _ _ HP.out (by have := HB.out; simp at this ⊢; omega)).mono ?_; rintro e w2 ⟨⟨r, rfl⟩, hp⟩; obtain ⟨b0, b1, b2, b3⟩ := HN.out _ _ _ _ hp; obtain ⟨c00, c01, c02, c03⟩ := HC0.out _ _ _ _ hp; obtain ⟨c10, c11, c12, c13⟩ := HC1.out _ _ _ _ hp; have HP := hid_mk hp; clear hp)
    | (go_at_call_of 37 w2; refine (HP.out.putAt [⟨#[32]⟩] _ 1 _ (by simp) rfl rfl (by decide) (by have := HB.out; simp [txt] at this ⊢; omega)).mono ?_; rintro e w3 ⟨⟨r, rfl⟩, hp⟩; obtain ⟨b0, b1, b2, b3⟩ := HN.out _ _ _ _ hp; obtain ⟨c00, c01, c02, c03⟩ := HC0.out _ _ _ _ hp; obtain ⟨c10, c11, c12, c13⟩ := HC1.out _ _ _ _ hp; have HP := hid_mk hp; clear hp)
    | (go_at_call_of 40 u1; refine (HP.out.fn HBK1.out u1 HG.out HF1.out HR1.out (by have := HB.out; simp [txt] at this ⊢; omega)).mono ?_; rintro e w4 ⟨⟨r, rfl⟩, hp⟩; obtain ⟨b0, b1, b2, b3⟩ := HN.out _ _ _ _ hp; obtain ⟨c00, c01, c02, c03⟩ := HC0.out _ _ _ _ hp; obtain ⟨c10, c11, c12, c13⟩ := HC1.out _ _ _ _ hp; have HP := hid_mk hp; clear hp))
  go_end0
  exact IPst.addsOn HB0.out HP.out (by simp [txt]) _

end Go.Proofs.YtacamenjijlemaaGreatDoor

/- The program's printer: the head of a case. -/
namespace Go.Proofs.YtacamenjijlemaaGreatDoor
open Go.RowKit

set_option maxHeartbeats 4000000 in
set_option maxRecDepth 100000 in
theorem ch_0 (T : Nd) (hk : T.kind = 16) (hnum : T.num = 0) (h0 : T.len = 1) : IW 96 T (fun d => clauseT T.num T.name.data.toList (fun i => prN (T.kids i))) := by
  intro pb own X d b w v hbuf hg hf hr hb
  have hn := T.fine_len hf
  have htx : clauseT T.num T.name.data.toList (fun i => prN (T.kids i)) = [100, 101, 102, 97, 117, 108, 116] := by rw [hnum]; exact rfl
  rw [htx] at hb ⊢
  obtain ⟨a, cap, rfl, _⟩ := row_eq.1 hr
  have hval : T.val (.slice a T.len cap) = .agg #[.int .i64 16, .int .i64 0, .string T.name, .slice a 1 cap] := by unfold Nd.val; rw [hk, hnum, h0]
  rw [hval]
  have hb0 : Below w.heap.size w (w.alloc (.cells #[.int .i64 16, .int .i64 0, .string T.name, .slice a 1 cap] 30)) := ((Below.refl w.heap.size w).alloc (Nat.le_refl _) _)
  have HP := hid_mk (IPst.startOn hbuf hb0)
  have HN := hid_mk (fun d' b' Y W (h : IPst pb own (w.alloc (.cells #[.int .i64 16, .int .i64 0, .string T.name, .slice a 1 cap] 30)) d' b' Y W) => (show W.cell? ⟨w.heap.size, 0, none⟩ = some (.int .i64 16) ∧ W.cell? ⟨w.heap.size, 1, none⟩ = some (.int .i64 0) ∧ W.cell? ⟨w.heap.size, 2, none⟩ = some (.string T.name) ∧ W.cell? ⟨w.heap.size, 3, none⟩ = some (.slice a 1 cap) by
    have e := h.kept hbuf w.heap.size (Nat.le_refl _) (by simp)
    rw [e, e, e, e]; refine ⟨?_, ?_, ?_, ?_⟩ <;> simp [go_sem]))
  have HG := hid_mk (gl_on hbuf hb0 hg)
  have HB0 := hid_mk hb0
  have HB := hid_mk hb
  clear htx hk hnum h0 hb hr hf hbuf hg hval hb0
  generalize T.name = ts at *
  go_enter Tryz.func96, Tryz.ntmps96
  go_wp2_with (first
    | (go_at_call_of 37 w; refine (HP.out.putAt [⟨#[100, 101, 102, 97, 117, 108, 116]⟩] _ 1 _ (by simp) rfl rfl (by decide) (by have := HB.out; simp [txt] at this ⊢; omega)).mono ?_; rintro e w2 ⟨⟨r, rfl⟩, hp⟩; obtain ⟨b0, b1, b2, b3⟩ := HN.out _ _ _ _ hp; have HP := hid_mk hp; clear hp))
  go_end0
  exact IPst.addsOn HB0.out HP.out (by simp [txt]) _

set_option maxHeartbeats 4000000 in
set_option maxRecDepth 100000 in
theorem ch_1a (T : Nd) (hk : T.kind = 16) (hnum : T.num = 1) (h0 : T.len = 2) (he : T.name.toList.isEmpty = true) (hR : IW 95 (T.kids 0) (fun _ => [60, 45] ++ (prN (T.kids 0)).ex 6)) : IW 96 T (fun d => clauseT T.num T.name.data.toList (fun i => prN (T.kids i))) := by
  intro pb own X d b w v hbuf hg hf hr hb
  have hn := T.fine_len hf
  have htx : clauseT T.num T.name.data.toList (fun i => prN (T.kids i)) = [99, 97, 115, 101, 32] ++ ([60, 45] ++ (prN (T.kids 0)).ex 6) := by rw [hnum]; exact cl_text_1a he _
  rw [htx] at hb ⊢
  obtain ⟨g, off, cap, rfl, hgp, hcap, hkid⟩ := kid_at hr (by omega)
  obtain ⟨u0, hc0, hr0⟩ := hkid 0 (by omega)
  simp only [Nat.zero_mul, Nat.add_zero] at hc0
  have hlt0 : 0 < T.len := by omega
  have hval : T.val (.slice (some ⟨g, off, none⟩) T.len cap) = .agg #[.int .i64 16, .int .i64 1, .string T.name, .slice (some ⟨g, off, none⟩) 2 cap] := by unfold Nd.val; rw [hk, hnum, h0]
  rw [hval]
  have hb0 : Below w.heap.size w (w.alloc (.cells #[.int .i64 16, .int .i64 1, .string T.name, .slice (some ⟨g, off, none⟩) 2 cap] 30)) := ((Below.refl w.heap.size w).alloc (Nat.le_refl _) _)
  have HP := hid_mk (IPst.startOn hbuf hb0)
  have HN := hid_mk (fun d' b' Y W (h : IPst pb own (w.alloc (.cells #[.int .i64 16, .int .i64 1, .string T.name, .slice (some ⟨g, off, none⟩) 2 cap] 30)) d' b' Y W) => (show W.cell? ⟨w.heap.size, 0, none⟩ = some (.int .i64 16) ∧ W.cell? ⟨w.heap.size, 1, none⟩ = some (.int .i64 1) ∧ W.cell? ⟨w.heap.size, 2, none⟩ = some (.string T.name) ∧ W.cell? ⟨w.heap.size, 3, none⟩ = some (.slice (some ⟨g, off, none⟩) 2 cap) by
    have e := h.kept hbuf w.heap.size (Nat.le_refl _) (by simp)
    rw [e, e, e, e]; refine ⟨?_, ?_, ?_, ?_⟩ <;> simp [go_sem]))
  have HG := hid_mk (gl_on hbuf hb0 hg)
  have HB0 := hid_mk hb0
  have HC0 := hid_mk (fun d' b' Y W (h : IPst pb own (w.alloc (.cells #[.int .i64 16, .int .i64 1, .string T.name, .slice (some ⟨g, off, none⟩) 2 cap] 30)) d' b' Y W) => hc0 W (h.belowOn hbuf hb0))
  have HR0 := hid_mk (row_on hbuf hb0 hr0)
  have HF0 := hid_mk (Nd.fine_kid hf hlt0)
  have HB := hid_mk hb
  obtain ⟨c00, c01, c02, c03⟩ := HC0.out _ _ _ _ HP.out
  have HV := hid_mk hR
  clear htx hk hnum h0 hR hlt0 hb hr hf hbuf hg hval hb0 hc0 hr0 hkid hcap
  generalize T.kids 0 = K0 at *
  generalize T.name = ts at *
  go_enter Tryz.func96, Tryz.ntmps96
  go_wp2_with (first
    | (go_at_call_of 37 w; refine (HP.out.putAt [⟨#[99, 97, 115, 101, 32]⟩] _ 1 _ (by simp) rfl rfl (by decide) (by have := HB.out; simp [txt] at this ⊢; omega)).mono ?_; rintro e w2 ⟨⟨r, rfl⟩, hp⟩; obtain ⟨b0, b1, b2, b3⟩ := HN.out _ _ _ _ hp; obtain ⟨c00, c01, c02, c03⟩ := HC0.out _ _ _ _ hp; have HP := hid_mk hp; clear hp)
    | (go_at_call_of 95 u0; refine (HP.out.fn HV.out u0 HG.out HF0.out HR0.out (by have := HB.out; simp [txt] at this ⊢; omega)).mono ?_; rintro e w3 ⟨⟨r, rfl⟩, hp⟩; obtain ⟨b0, b1, b2, b3⟩ := HN.out _ _ _ _ hp; obtain ⟨c00, c01, c02, c03⟩ := HC0.out _ _ _ _ hp; have HP := hid_mk hp; clear hp))
  go_end0
  exact IPst.addsOn HB0.out HP.out (by simp [txt]) _

set_option maxHeartbeats 4000000 in
set_option maxRecDepth 100000 in
theorem ch_1b (T : Nd) (hk : T.kind = 16) (hnum : T.num = 1) (h0 : T.len = 2) (he : T.name.toList.isEmpty = false) (hR : IW 95 (T.kids 0) (fun _ => [60, 45] ++ (prN (T.kids 0)).ex 6)) : IW 96 T (fun d => clauseT T.num T.name.data.toList (fun i => prN (T.kids i))) := by
  intro pb own X d b w v hbuf hg hf hr hb
  have hn := T.fine_len hf
  have htx : clauseT T.num T.name.data.toList (fun i => prN (T.kids i)) = [99, 97, 115, 101, 32] ++ ((T.name.data.toList ++ [32, 58, 61, 32]) ++ ([60, 45] ++ (prN (T.kids 0)).ex 6)) := by rw [hnum]; exact cl_text_1b he _
  rw [htx] at hb ⊢
  obtain ⟨g, off, cap, rfl, hgp, hcap, hkid⟩ := kid_at hr (by omega)
  obtain ⟨u0, hc0, hr0⟩ := hkid 0 (by omega)
  simp only [Nat.zero_mul, Nat.add_zero] at hc0
  have hlt0 : 0 < T.len := by omega
  have hval : T.val (.slice (some ⟨g, off, none⟩) T.len cap) = .agg #[.int .i64 16, .int .i64 1, .string T.name, .slice (some ⟨g, off, none⟩) 2 cap] := by unfold Nd.val; rw [hk, hnum, h0]
  rw [hval]
  have hb0 : Below w.heap.size w (w.alloc (.cells #[.int .i64 16, .int .i64 1, .string T.name, .slice (some ⟨g, off, none⟩) 2 cap] 30)) := ((Below.refl w.heap.size w).alloc (Nat.le_refl _) _)
  have HP := hid_mk (IPst.startOn hbuf hb0)
  have HN := hid_mk (fun d' b' Y W (h : IPst pb own (w.alloc (.cells #[.int .i64 16, .int .i64 1, .string T.name, .slice (some ⟨g, off, none⟩) 2 cap] 30)) d' b' Y W) => (show W.cell? ⟨w.heap.size, 0, none⟩ = some (.int .i64 16) ∧ W.cell? ⟨w.heap.size, 1, none⟩ = some (.int .i64 1) ∧ W.cell? ⟨w.heap.size, 2, none⟩ = some (.string T.name) ∧ W.cell? ⟨w.heap.size, 3, none⟩ = some (.slice (some ⟨g, off, none⟩) 2 cap) by
    have e := h.kept hbuf w.heap.size (Nat.le_refl _) (by simp)
    rw [e, e, e, e]; refine ⟨?_, ?_, ?_, ?_⟩ <;> simp [go_sem]))
  have HG := hid_mk (gl_on hbuf hb0 hg)
  have HB0 := hid_mk hb0
  have HC0 := hid_mk (fun d' b' Y W (h : IPst pb own (w.alloc (.cells #[.int .i64 16, .int .i64 1, .string T.name, .slice (some ⟨g, off, none⟩) 2 cap] 30)) d' b' Y W) => hc0 W (h.belowOn hbuf hb0))
  have HR0 := hid_mk (row_on hbuf hb0 hr0)
  have HF0 := hid_mk (Nd.fine_kid hf hlt0)
  have HB := hid_mk hb
  obtain ⟨c00, c01, c02, c03⟩ := HC0.out _ _ _ _ HP.out
  have HV := hid_mk hR
  clear htx hk hnum h0 hR hlt0 hb hr hf hbuf hg hval hb0 hc0 hr0 hkid hcap
  generalize T.kids 0 = K0 at *
  generalize T.name = ts at *
  go_enter Tryz.func96, Tryz.ntmps96
  go_wp2_with (first
    | (go_at_call_of 37 w; refine (HP.out.putAt [⟨#[99, 97, 115, 101, 32]⟩] _ 1 _ (by simp) rfl rfl (by decide) (by have := HB.out; simp [txt] at this ⊢; omega)).mono ?_; rintro e w2 ⟨⟨r, rfl⟩, hp⟩; obtain ⟨b0, b1, b2, b3⟩ := HN.out _ _ _ _ hp; obtain ⟨c00, c01, c02, c03⟩ := HC0.out _ _ _ _ hp; have HP := hid_mk hp; clear hp))
  go_region_with (first
    | (go_at_call_of 37 w2; refine (HP.out.putD [ts, ⟨#[32, 58, 61, 32]⟩] _ 2 _ (by simp) rfl rfl (by decide) (by have := HB.out; simp [txt] at this ⊢; omega)).mono ?_; rintro e w3 ⟨⟨r, rfl⟩, hp⟩; obtain ⟨b0, b1, b2, b3⟩ := HN.out _ _ _ _ hp; obtain ⟨c00, c01, c02, c03⟩ := HC0.out _ _ _ _ hp; have HP := hid_mk hp; clear hp))
  go_wp2_with (first
    | (go_at_call_of 95 u0; refine (HP.out.fn HV.out u0 HG.out HF0.out HR0.out (by have := HB.out; simp [txt] at this ⊢; omega)).mono ?_; rintro e w4 ⟨⟨r, rfl⟩, hp⟩; obtain ⟨b0, b1, b2, b3⟩ := HN.out _ _ _ _ hp; obtain ⟨c00, c01, c02, c03⟩ := HC0.out _ _ _ _ hp; have HP := hid_mk hp; clear hp))
  go_end0
  exact IPst.addsOn HB0.out HP.out (by simp [txt]) _

set_option maxHeartbeats 4000000 in
set_option maxRecDepth 100000 in
theorem ch_2 (T : Nd) (hk : T.kind = 16) (hnum : T.num = 2) (h0 : T.len = 3) (i0 : IEx (T.kids 0)) (i1 : IEx (T.kids 1)) (e0 : (T.kids 0).eOk = true) (e1 : (T.kids 1).eOk = true) : IW 96 T (fun d => clauseT T.num T.name.data.toList (fun i => prN (T.kids i))) := by
  intro pb own X d b w v hbuf hg hf hr hb
  have hn := T.fine_len hf
  have htx : clauseT T.num T.name.data.toList (fun i => prN (T.kids i)) = [99, 97, 115, 101, 32] ++ ((prN (T.kids 0)).ex 1 ++ ([32, 60, 45, 32] ++ (prN (T.kids 1)).ex 1)) := by rw [hnum]; exact rfl
  rw [htx] at hb ⊢
  obtain ⟨g, off, cap, rfl, hgp, hcap, hkid⟩ := kid_at hr (by omega)
  obtain ⟨u0, hc0, hr0⟩ := hkid 0 (by omega)
  simp only [Nat.zero_mul, Nat.add_zero] at hc0
  have hlt0 : 0 < T.len := by omega
  obtain ⟨u1, hc1, hr1⟩ := hkid 1 (by omega)
  simp only [Nat.one_mul] at hc1
  have hlt1 : 1 < T.len := by omega
  have hval : T.val (.slice (some ⟨g, off, none⟩) T.len cap) = .agg #[.int .i64 16, .int .i64 2, .string T.name, .slice (some ⟨g, off, none⟩) 3 cap] := by unfold Nd.val; rw [hk, hnum, h0]
  rw [hval]
  have hb0 : Below w.heap.size w (w.alloc (.cells #[.int .i64 16, .int .i64 2, .string T.name, .slice (some ⟨g, off, none⟩) 3 cap] 30)) := ((Below.refl w.heap.size w).alloc (Nat.le_refl _) _)
  have HP := hid_mk (IPst.startOn hbuf hb0)
  have HN := hid_mk (fun d' b' Y W (h : IPst pb own (w.alloc (.cells #[.int .i64 16, .int .i64 2, .string T.name, .slice (some ⟨g, off, none⟩) 3 cap] 30)) d' b' Y W) => (show W.cell? ⟨w.heap.size, 0, none⟩ = some (.int .i64 16) ∧ W.cell? ⟨w.heap.size, 1, none⟩ = some (.int .i64 2) ∧ W.cell? ⟨w.heap.size, 2, none⟩ = some (.string T.name) ∧ W.cell? ⟨w.heap.size, 3, none⟩ = some (.slice (some ⟨g, off, none⟩) 3 cap) by
    have e := h.kept hbuf w.heap.size (Nat.le_refl _) (by simp)
    rw [e, e, e, e]; refine ⟨?_, ?_, ?_, ?_⟩ <;> simp [go_sem]))
  have HG := hid_mk (gl_on hbuf hb0 hg)
  have HB0 := hid_mk hb0
  have HC0 := hid_mk (fun d' b' Y W (h : IPst pb own (w.alloc (.cells #[.int .i64 16, .int .i64 2, .string T.name, .slice (some ⟨g, off, none⟩) 3 cap] 30)) d' b' Y W) => hc0 W (h.belowOn hbuf hb0))
  have HR0 := hid_mk (row_on hbuf hb0 hr0)
  have HF0 := hid_mk (Nd.fine_kid hf hlt0)
  have HC1 := hid_mk (fun d' b' Y W (h : IPst pb own (w.alloc (.cells #[.int .i64 16, .int .i64 2, .string T.name, .slice (some ⟨g, off, none⟩) 3 cap] 30)) d' b' Y W) => hc1 W (h.belowOn hbuf hb0))
  have HR1 := hid_mk (row_on hbuf hb0 hr1)
  have HF1 := hid_mk (Nd.fine_kid hf hlt1)
  have HB := hid_mk hb
  obtain ⟨c00, c01, c02, c03⟩ := HC0.out _ _ _ _ HP.out
  obtain ⟨c10, c11, c12, c13⟩ := HC1.out _ _ _ _ HP.out
  have HI0 := hid_mk i0
  have HI1 := hid_mk i1
  have HE0 := hid_mk e0
  have HE1 := hid_mk e1
  clear htx hk hnum h0 i0 i1 e0 e1 hlt0 hlt1 hb hr hf hbuf hg hval hb0 hc0 hr0 hc1 hr1 hkid hcap
  generalize T.kids 0 = K0 at *
  generalize T.kids 1 = K1 at *
  generalize T.name = ts at *
  go_enter Tryz.func96, Tryz.ntmps96
  go_wp2_with (first
    | (go_at_call_of 37 w; refine (HP.out.putAt [⟨#[99, 97, 115, 101, 32]⟩] _ 1 _ (by simp) rfl rfl (by decide) (by have := HB.out; simp [txt] at this ⊢; omega)).mono ?_; rintro e w2 ⟨⟨r, rfl⟩, hp⟩; obtain ⟨b0, b1, b2, b3⟩ := HN.out _ _ _ _ hp; obtain ⟨c00, c01, c02, c03⟩ := HC0.out _ _ _ _ hp; obtain ⟨c10, c11, c12, c13⟩ := HC1.out _ _ _ _ hp; have HP := hid_mk hp; clear hp))
  go_region_held3 (fun W => W.cell? ⟨w.heap.size, 3, none⟩ = some (.slice (some ⟨g, off, none⟩) 3 cap) ∧ W.cell? ⟨g, off, none⟩ = some (.int .i64 K0.kind) ∧ W.cell? ⟨g, off + 1, none⟩ = some (.int .i64 K0.num) ∧ W.cell? ⟨g, off + 2, none⟩ = some (.string K0.name) ∧ W.cell? ⟨g, off + 3, none⟩ = some (u0) ∧ W.cell? ⟨g, off + 4, none⟩ = some (.int .i64 K1.kind) ∧ W.cell? ⟨g, off + 4 + 1, none⟩ = some (.int .i64 K1.num) ∧ W.cell? ⟨g, off + 4 + 2, none⟩ = some (.string K1.name) ∧ W.cell? ⟨g, off + 4 + 3, none⟩ = some (u1)) (go_keep) (first
    | (go_at_call 82; refine (HP.out.drew.send HI0.out HI1.out HE0.out HE1.out u0 u1 HG.out HF0.out HF1.out HR0.out HR1.out (by have := HB.out; simp [txt] at this ⊢; omega)).mono ?_; rintro e w3 ⟨⟨r, rfl⟩, hp⟩; obtain ⟨b0, b1, b2, b3⟩ := HN.out _ _ _ _ hp; obtain ⟨c00, c01, c02, c03⟩ := HC0.out _ _ _ _ hp; obtain ⟨c10, c11, c12, c13⟩ := HC1.out _ _ _ _ hp; have HP := hid_mk hp; clear hp))
  all_goals go_wp2
  all_goals go_end0
  all_goals exact IPst.addsOn HB0.out HP.out (by simp [txt]) _

end Go.Proofs.YtacamenjijlemaaGreatDoor

/- The program's printer: a select. -/
namespace Go.Proofs.YtacamenjijlemaaGreatDoor
open Go.RowKit

set_option maxHeartbeats 4000000 in
set_option maxRecDepth 100000 in
theorem choice_of (T : Nd) (hC : ∀ i, i < T.len → (T.kids i).cOk = true) (hH : ∀ i, i < T.len → IW 96 (T.kids i) (fun _ => clauseT (T.kids i).num (T.kids i).name.data.toList (fun k => prN ((T.kids i).kids k)))) (hS : ∀ i, i < T.len → ISts ((T.kids i).kids ((T.kids i).len - 1))) :
    IW 87 T (fun d => [115, 101, 108, 101, 99, 116, 32, 123, 10] ++ (catTo (fun i => (prN (T.kids i)).cs d) T.len ++ (tabsT d ++ [125]))) := by
  intro pb own X d b w v hbuf hg hf hr hb
  dsimp only at hb ⊢
  have hnn := T.fine_len hf
  have hd : d ≤ 1099511627776 := by have := hb; simp [tabsT] at this; omega
  obtain ⟨a, cap, rfl, _⟩ := row_eq.1 hr
  unfold Nd.val
  have HP := hid_mk (IPst.startB hbuf (.cells #[.int .i64 T.kind, .int .i64 T.num, .string T.name, .slice a T.len cap] 30))
  have HR := hid_mk (row_allocI hbuf hr (.cells #[.int .i64 T.kind, .int .i64 T.num, .string T.name, .slice a T.len cap] 30))
  have HG := hid_mk (hg.alloc hbuf.lt (.cells #[.int .i64 T.kind, .int .i64 T.num, .string T.name, .slice a T.len cap] 30))
  have HM : Hid (∀ d' b' Y W, IPst pb own (w.alloc (.cells #[.int .i64 T.kind, .int .i64 T.num, .string T.name, .slice a T.len cap] 30)) d' b' Y W → W.cell? ⟨w.heap.size, 3, none⟩ = some (.slice a T.len cap)) := fun d' b' Y W h => (IPst.node hbuf (.int .i64 T.kind) (.int .i64 T.num) (.string T.name) (.slice a T.len cap) 30 d' b' Y W h).2.2.2
  have HB := hid_mk hb
  have HC := hid_mk hC
  have HH := hid_mk hH
  have HS := hid_mk hS
  have HF := hid_mk hf
  clear hb hbuf hr hC hH hS hg hf
  generalize hF : (fun i => (prN (T.kids i)).cs d) = F at *
  have HFE := hid_mk hF
  have HFL := hid_mk (fun i (h : i < T.len) => catTo_at F h)
  clear hF
  generalize T.name = ts at *
  generalize T.num = tn at *
  generalize T.kind = tk at *
  go_enter Tryz.func87, Tryz.ntmps87
  go_wp2_with (first
    | (go_at_call_of 37 w; refine (HP.out.putAt [⟨#[115, 101, 108, 101, 99, 116, 32, 123]⟩] _ 1 _ (by simp) rfl rfl (by decide) (by have := HB.out; simp [txt] at this ⊢; omega)).mono ?_; rintro e w2 ⟨⟨r, rfl⟩, hp⟩; have HP := hid_mk hp; clear hp)
    | (go_at_call 25; refine (HP.out.endl (by have := HB.out; simp [txt] at this ⊢; omega)).mono ?_; rintro e w3 ⟨⟨r, rfl⟩, hp⟩; have b3 := HM.out _ _ _ _ hp; have HP := hid_mk hp; clear hp))
  go_loopw [18] (fun i wr => ∃ j : Nat, j ≤ T.len ∧ i = .int .i64 j ∧ Hid (IPst pb own (w.alloc (.cells #[.int .i64 tk, .int .i64 tn, .string ts, .slice a T.len cap] 30)) (d : Int) false (X ++ (ahead d b ++ [115, 101, 108, 101, 99, 116, 32, 123, 10]) ++ catTo F j) wr)) (fun i _ => T.len - (intOf i).toNat)
  case atStart => exact ⟨0, by omega, rfl, hid_mk (by simpa [catTo, txt] using HP.out)⟩
  case round =>
    obtain ⟨j, hj, rfl, HP⟩ := hrel
    by_cases hlt : j < T.len
    · obtain ⟨g, off, cap', hv, hgp, hcap, hk⟩ := kid_at HR.out (by omega)
      obtain rfl : a = some ⟨g, off, none⟩ := by injection hv
      obtain ⟨u, hc, hru⟩ := hk j (by omega)
      obtain ⟨c0, c1, c2, c3⟩ := hc _ HP.out.below
      have hcok := HC.out j hlt
      obtain ⟨hk16, h3, hkl, hsl⟩ := cs_ok hcok
      have hL : (T.kids j).len = 1 ∨ (T.kids j).len = 2 ∨ (T.kids j).len = 3 := by rcases h3 with h | h | h <;> omega
      obtain ⟨g2, off2, cap2, rfl, _, hcp2, _⟩ := kid_at hru (by omega)
      obtain ⟨own1, hbf, hjoin⟩ := HP.out.join
      have hru2 := row_allocI hbf (row_below HP.out.below (Nat.le_refl _) hru) (.cells #[.int .i64 (T.kids j).kind, .int .i64 (T.kids j).num, .string (T.kids j).name, .slice (some ⟨g2, off2, none⟩) (T.kids j).len cap2] 30)
      obtain ⟨g3, off3, cap3, he3, hg3, hcap3, hk2⟩ := kid_at hru2 (by omega)
      obtain ⟨rfl, rfl, rfl⟩ : g3 = g2 ∧ off3 = off2 ∧ cap3 = cap2 := by
        injection he3 with e1 e2 e3
        injection e1 with e1
        injection e1 with e1 e4
        exact ⟨e1.symm, e4.symm, e3.symm⟩
      obtain ⟨u2, hc2, hru3⟩ := hk2 ((T.kids j).len - 1) (by omega)
      have hfj := Nd.fine_kid HF.out (show j < T.len by omega)
      have hcl := HFL.out j hlt
      have HHJ := hid_mk (HH.out j hlt)
      have HSJ := hid_mk (HS.out j hlt)
      have HFJ := hid_mk hfj
      have HFG := hid_mk (Nd.fine_kid hfj (i := (T.kids j).len - 1) (by omega))
      have HFJE : Hid (F j = tabsT d ++ (clauseT (T.kids j).num (T.kids j).name.data.toList (fun i => prN ((T.kids j).kids i)) ++ ([58, 10] ++ (prN ((T.kids j).kids ((T.kids j).len - 1))).sts (d + 1)))) := by
        rw [← HFE.out]; exact cs_text _ hk16 d
      have HX := hid_mk (show catTo F (j + 1) = catTo F j ++ F j from rfl)
      rw [HFJE.out] at HX hcl
      have HRJ := hid_mk hru2
      have HRG := hid_mk hru3
      have HGJ := hid_mk ((HG.out.keep HP.out.below).alloc hbf.lt (.cells #[.int .i64 (T.kids j).kind, .int .i64 (T.kids j).num, .string (T.kids j).name, .slice (some ⟨g3, off3, none⟩) (T.kids j).len cap3] 30))
      have HPF := hid_mk (IPst.startB hbf (.cells #[.int .i64 (T.kids j).kind, .int .i64 (T.kids j).num, .string (T.kids j).name, .slice (some ⟨g3, off3, none⟩) (T.kids j).len cap3] 30))
      have HNF := hid_mk (IPst.node hbf (.int .i64 (T.kids j).kind) (.int .i64 (T.kids j).num) (.string (T.kids j).name) (.slice (some ⟨g3, off3, none⟩) (T.kids j).len cap3) 30)
      have HCG := hid_mk (fun d' b' Y W (h : IPst pb own1 (wr.alloc (.cells #[.int .i64 (T.kids j).kind, .int .i64 (T.kids j).num, .string (T.kids j).name, .slice (some ⟨g3, off3, none⟩) (T.kids j).len cap3] 30)) d' b' Y W) => hc2 W h.below)
      have HJ := hid_mk (fun Y W (h : IPst pb own1 (wr.alloc (.cells #[.int .i64 (T.kids j).kind, .int .i64 (T.kids j).num, .string (T.kids j).name, .slice (some ⟨g3, off3, none⟩) (T.kids j).len cap3] 30)) (d : Int) false Y W) => hjoin _ _ Y W _ h)
      have HVAL : Hid ((T.kids j).val (.slice (some ⟨g3, off3, none⟩) (T.kids j).len cap3) = .agg #[.int .i64 (T.kids j).kind, .int .i64 (T.kids j).num, .string (T.kids j).name, .slice (some ⟨g3, off3, none⟩) (T.kids j).len cap3]) := rfl
      clear HP hk hc hru hru2 hru3 hv hcap hbf hjoin HFJE hc2 hk2 he3 hcok h3 hkl hsl hfj hk16
      have HP := HPF
      clear HPF
      generalize T.kids j = K at *
      generalize clauseT K.num K.name.data.toList (fun i => prN (K.kids i)) = CT at *
      have hcl2 : (catTo F j).length + (d + (CT.length + (2 + ((prN (K.kids (K.len - 1))).sts (d + 1)).length))) ≤ (catTo F T.len).length := by
        simp only [List.length_append, tabsT, List.length_replicate, List.length_cons, List.length_nil] at hcl; omega
      have HCV := hid_mk (fun b' Y W (h : IPst pb own1 (wr.alloc (.cells #[.int .i64 K.kind, .int .i64 K.num, .string K.name, .slice (some ⟨g3, off3, none⟩) K.len cap3] 30)) d b' Y W) hb => h.fn HHJ.out _ HGJ.out HFJ.out HRJ.out hb)
      rw [HVAL.out] at HCV
      clear HVAL hcl HHJ HRJ
      generalize K.kids (K.len - 1) = G at *
      generalize K.len = L at *
      rcases hL with rfl | rfl | rfl
      all_goals simp only [Nat.reduceSub, Nat.zero_mul, Nat.add_zero, Nat.one_mul, Nat.reduceMul] at HCG
      all_goals go_wp2_with (first
        | (go_at_call 96; refine (HCV.out _ _ _ HP.out (by have := HB.out; simp [ahead_false, tabsT] at this ⊢; omega)).mono ?_; rintro e w2 ⟨⟨r, rfl⟩, hp⟩; have HP := hid_mk hp; clear hp)
        | (go_at_call 37; refine (HP.out.putAt [⟨#[58]⟩] _ 1 _ (by simp) rfl rfl (by decide) (by have := HB.out; simp [txt, ahead_false, tabsT] at this ⊢; omega)).mono ?_; rintro e w2 ⟨⟨r, rfl⟩, hp⟩; have HP := hid_mk hp; clear hp)
        | (go_at_call 25; refine (HP.out.endl (by have := HB.out; simp [txt, ahead_false, tabsT] at this ⊢; omega)).mono ?_; rintro e w2 ⟨⟨r, rfl⟩, hp⟩; obtain ⟨x0, x1, x2, x3⟩ := HNF.out _ _ _ _ hp; obtain ⟨d0, d1, d2, d3⟩ := HCG.out _ _ _ _ hp; have HP := hid_mk hp; clear hp)
        | (go_at_call 54; refine (HP.out.sts HSJ.out u2 HGJ.out HFG.out HRG.out hd (by have := HB.out; simp [txt, ahead_false, tabsT] at this ⊢; omega)).mono ?_; rintro e w5 ⟨⟨r, rfl⟩, hp⟩; obtain ⟨x0, x1, x2, x3⟩ := HNF.out _ _ _ _ hp; obtain ⟨d0, d1, d2, d3⟩ := HCG.out _ _ _ _ hp; have HP := hid_mk hp; clear hp))
      all_goals exact ⟨⟨j + 1, by omega, by go_num, hid_mk (HJ.out _ _ (by rw [HX.out]; simpa [txt, ahead_false] using HP.out))⟩, by simp [intOf]; omega⟩
    · obtain rfl : j = T.len := by omega
      go_wp2_with (go_at_call 37; refine (HP.out.putAt [⟨#[125]⟩] _ 1 _ (by simp) rfl rfl (by decide) (by have := HB.out; simp [txt, ahead_false] at this ⊢; omega)).mono ?_; rintro e w4 ⟨⟨r, rfl⟩, hp⟩; have HP := hid_mk hp; clear hp)
      go_end0
      exact HP.out.addsB (by simp [txt, ahead_false]) _
end Go.Proofs.YtacamenjijlemaaGreatDoor
