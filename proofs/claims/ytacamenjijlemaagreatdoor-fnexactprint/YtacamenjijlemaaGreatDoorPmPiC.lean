/- The program's printer: a sign of two sides. -/
import Derived.Test.YtacamenjijlemaaGreatDoorPmPiA
import Derived.Deep.RegionHeld3
import Derived.StillTailTactics
import Derived.WalkSpells
import Derived.WalkSmall
set_option linter.unusedVariables false
namespace Go.Proofs.YtacamenjijlemaaGreatDoor
open Go.RowKit
theorem bin_text {T : Nd} (hk : T.kind = 28) (hok : T.eOk = true) : (prN T).ex 1 = parT (decide ((T.kids 0).kind = 28) && decide (lvl (T.kids 0).name < lvl T.name)) ((prN (T.kids 0)).ex 1) ++ (32 :: (T.name.data.toList ++ 32 :: parT (decide ((T.kids 1).kind = 28) && decide (lvl (T.kids 1).name < lvl T.name + 1)) ((prN (T.kids 1)).ex 1))) := by
  obtain ⟨hlv, hlen, hE0, hE1⟩ := ex_ok_28 hk hok
  rw [ex_text_28 T hk, ← ex_level hE0 _ hlv, ← ex_level hE1 _ (by omega)]
  have h1 : decide (lvl T.name < 1) = false := by simp; omega
  rw [h1]; rfl

set_option maxHeartbeats 4000000 in
set_option maxRecDepth 100000 in
theorem bin_of (T : Nd) (hk : T.kind = 28) (ih : ∀ i, i < T.len → IEx (T.kids i)) (hok : T.eOk = true) : IW 94 T (fun d => (prN T).ex 1) := by
  intro pb own X d b w v hbuf hg hf hr hb
  have hn := T.fine_len hf
  obtain ⟨hlv, hlen, hE0, hE1⟩ := ex_ok_28 hk hok
  have hlv5 := lvl_le T.name
  rw [bin_text hk hok] at hb ⊢
  obtain ⟨g, off, cap, rfl, hgp, hcap, hkid⟩ := kid_at hr (by omega)
  obtain ⟨u0, hc0, hr0⟩ := hkid 0 (by omega)
  simp only [Nat.zero_mul, Nat.add_zero] at hc0
  have hlt0 : 0 < T.len := by omega
  obtain ⟨u1, hc1, hr1⟩ := hkid 1 (by omega)
  simp only [Nat.one_mul] at hc1
  have hlt1 : 1 < T.len := by omega
  have hval : T.val (.slice (some ⟨g, off, none⟩) T.len cap) = .agg #[.int .i64 28, .int .i64 T.num, .string T.name, .slice (some ⟨g, off, none⟩) 2 cap] := by unfold Nd.val; rw [hk, hlen]
  rw [hval]
  have hb0 : Below w.heap.size w (w.alloc (.cells #[.int .i64 28, .int .i64 T.num, .string T.name, .slice (some ⟨g, off, none⟩) 2 cap] 30)) := ((Below.refl w.heap.size w).alloc (Nat.le_refl _) _)
  have HP := hid_mk (IPst.startOn hbuf hb0)
  have HN := hid_mk (fun d' b' Y W (h : IPst pb own (w.alloc (.cells #[.int .i64 28, .int .i64 T.num, .string T.name, .slice (some ⟨g, off, none⟩) 2 cap] 30)) d' b' Y W) => (show W.cell? ⟨w.heap.size, 0, none⟩ = some (.int .i64 28) ∧ W.cell? ⟨w.heap.size, 1, none⟩ = some (.int .i64 T.num) ∧ W.cell? ⟨w.heap.size, 2, none⟩ = some (.string T.name) ∧ W.cell? ⟨w.heap.size, 3, none⟩ = some (.slice (some ⟨g, off, none⟩) 2 cap) by
    have e := h.kept hbuf w.heap.size (Nat.le_refl _) (by simp)
    rw [e, e, e, e]; refine ⟨?_, ?_, ?_, ?_⟩ <;> simp [go_sem]))
  have HG := hid_mk (gl_on hbuf hb0 hg)
  have HB0 := hid_mk hb0
  have HC0 := hid_mk (fun d' b' Y W (h : IPst pb own (w.alloc (.cells #[.int .i64 28, .int .i64 T.num, .string T.name, .slice (some ⟨g, off, none⟩) 2 cap] 30)) d' b' Y W) => hc0 W (h.belowOn hbuf hb0))
  have HR0 := hid_mk (row_on hbuf hb0 hr0)
  have HF0 := hid_mk (Nd.fine_kid hf hlt0)
  have HC1 := hid_mk (fun d' b' Y W (h : IPst pb own (w.alloc (.cells #[.int .i64 28, .int .i64 T.num, .string T.name, .slice (some ⟨g, off, none⟩) 2 cap] 30)) d' b' Y W) => hc1 W (h.belowOn hbuf hb0))
  have HR1 := hid_mk (row_on hbuf hb0 hr1)
  have HF1 := hid_mk (Nd.fine_kid hf hlt1)
  have HB := hid_mk hb
  obtain ⟨c00, c01, c02, c03⟩ := HC0.out _ _ _ _ HP.out
  obtain ⟨c10, c11, c12, c13⟩ := HC1.out _ _ _ _ HP.out
  have HI0 := hid_mk (ih 0 hlt0)
  have HI1 := hid_mk (ih 1 hlt1)
  have HE0 := hid_mk hE0
  have HE1 := hid_mk hE1
  have HV := hid_mk (fun W : World => binding_any T.name W)
  have HBUF := hid_mk hbuf
  have HGW := hid_mk hg
  have HR0W := hid_mk hr0
  have HR1W := hid_mk hr1
  clear ih hE0 hE1 hok hk hlen hlt0 hlt1 hb hr hf hbuf hg hval hb0 hc0 hr0 hc1 hr1 hkid hcap
  generalize T.kids 0 = K0 at *
  generalize T.kids 1 = K1 at *
  generalize lvl T.name = lv at *
  generalize T.name = ts at *
  generalize T.num = tn at *
  have HBB0 : Hid (∀ W : World, ∀ a l c, Calls Tryz.prog 101 #[K0.val (.slice a l c), .int .i64 lv] W fun e w' => e = .returned (.bool (decide (K0.kind = 28) && decide (lvl K0.name < lv))) ∧ Below W.heap.size W w') := fun W a l c => binds_any K0 W a l c lv
  have HBB1 : Hid (∀ W : World, ∀ a l c, Calls Tryz.prog 101 #[K1.val (.slice a l c), .int .i64 ((lv : Int) + 1)] W fun e w' => e = .returned (.bool (decide (K1.kind = 28) && decide (lvl K1.name < lv + 1))) ∧ Below W.heap.size W w') := fun W a l c => binds_any K1 W a l c (lv + 1)
  obtain ⟨a0, l0, q0, rfl⟩ : ∃ a l c, u0 = .slice a l c := by obtain ⟨a, c, h, _⟩ := row_eq.1 HR0.out; exact ⟨a, _, c, h⟩
  obtain ⟨a1, l1, q1, rfl⟩ : ∃ a l c, u1 = .slice a l c := by obtain ⟨a, c, h, _⟩ := row_eq.1 HR1.out; exact ⟨a, _, c, h⟩
  obtain ⟨b0, b1, b2, b3⟩ := HN.out _ _ _ _ HP.out
  have hbA : Below w.heap.size w (((w.alloc (.cells #[.int .i64 28, .int .i64 tn, .string ts, .slice (some ⟨g, off, none⟩) 2 cap] 30)).alloc (.cells #[.int .i64 K0.kind, .int .i64 K0.num, .string K0.name, .slice a0 l0 q0] 30)).alloc (.cells #[.int .i64 K1.kind, .int .i64 K1.num, .string K1.name, .slice a1 l1 q1] 30)) := (((Below.refl w.heap.size w).alloc (Nat.le_refl _) _).alloc (by simp) _).alloc (by simp; omega) _
  have HPA := hid_mk (IPst.startOn HBUF.out hbA)
  have HB0A := hid_mk hbA
  have HGA := hid_mk (gl_on HBUF.out hbA HGW.out)
  have HR0A := hid_mk (row_on HBUF.out hbA HR0W.out)
  have HR1A := hid_mk (row_on HBUF.out hbA HR1W.out)
  have HNA : Hid (∀ d' b' Y W, IPst pb own (((w.alloc (.cells #[.int .i64 28, .int .i64 tn, .string ts, .slice (some ⟨g, off, none⟩) 2 cap] 30)).alloc (.cells #[.int .i64 K0.kind, .int .i64 K0.num, .string K0.name, .slice a0 l0 q0] 30)).alloc (.cells #[.int .i64 K1.kind, .int .i64 K1.num, .string K1.name, .slice a1 l1 q1] 30)) d' b' Y W → (W.cell? ⟨w.heap.size, 0, none⟩ = some (.int .i64 28) ∧ W.cell? ⟨w.heap.size, 1, none⟩ = some (.int .i64 tn) ∧ W.cell? ⟨w.heap.size, 2, none⟩ = some (.string ts) ∧ W.cell? ⟨w.heap.size, 3, none⟩ = some (.slice (some ⟨g, off, none⟩) 2 cap)) ∧ (W.cell? ⟨w.heap.size + 1, 0, none⟩ = some (.int .i64 K0.kind) ∧ W.cell? ⟨w.heap.size + 1, 1, none⟩ = some (.int .i64 K0.num) ∧ W.cell? ⟨w.heap.size + 1, 2, none⟩ = some (.string K0.name) ∧ W.cell? ⟨w.heap.size + 1, 3, none⟩ = some (.slice a0 l0 q0)) ∧ (W.cell? ⟨w.heap.size + 1 + 1, 0, none⟩ = some (.int .i64 K1.kind) ∧ W.cell? ⟨w.heap.size + 1 + 1, 1, none⟩ = some (.int .i64 K1.num) ∧ W.cell? ⟨w.heap.size + 1 + 1, 2, none⟩ = some (.string K1.name) ∧ W.cell? ⟨w.heap.size + 1 + 1, 3, none⟩ = some (.slice a1 l1 q1))) := by
    intro d' b' Y W h
    have e1 := h.kept HBUF.out w.heap.size (Nat.le_refl _) (by simp; omega)
    have e2 := h.kept HBUF.out (w.heap.size + 1) (by omega) (by simp)
    have e3 := h.kept HBUF.out (w.heap.size + 1 + 1) (by omega) (by simp)
    rw [e1, e1, e1, e1, e2, e2, e2, e2, e3, e3, e3, e3]
    refine ⟨⟨?_, ?_, ?_, ?_⟩, ⟨?_, ?_, ?_, ?_⟩, ⟨?_, ?_, ?_, ?_⟩⟩ <;> simp [go_sem]
  clear hbA
  have hbB : Below w.heap.size w (((w.alloc (.cells #[.int .i64 28, .int .i64 tn, .string ts, .slice (some ⟨g, off, none⟩) 2 cap] 30)).alloc (.cells #[.int .i64 K1.kind, .int .i64 K1.num, .string K1.name, .slice a1 l1 q1] 30)).alloc (.cells #[.int .i64 K0.kind, .int .i64 K0.num, .string K0.name, .slice a0 l0 q0] 30)) := (((Below.refl w.heap.size w).alloc (Nat.le_refl _) _).alloc (by simp) _).alloc (by simp; omega) _
  have HPB := hid_mk (IPst.startOn HBUF.out hbB)
  have HB0B := hid_mk hbB
  have HGB := hid_mk (gl_on HBUF.out hbB HGW.out)
  have HR0B := hid_mk (row_on HBUF.out hbB HR0W.out)
  have HR1B := hid_mk (row_on HBUF.out hbB HR1W.out)
  have HNB : Hid (∀ d' b' Y W, IPst pb own (((w.alloc (.cells #[.int .i64 28, .int .i64 tn, .string ts, .slice (some ⟨g, off, none⟩) 2 cap] 30)).alloc (.cells #[.int .i64 K1.kind, .int .i64 K1.num, .string K1.name, .slice a1 l1 q1] 30)).alloc (.cells #[.int .i64 K0.kind, .int .i64 K0.num, .string K0.name, .slice a0 l0 q0] 30)) d' b' Y W → (W.cell? ⟨w.heap.size, 0, none⟩ = some (.int .i64 28) ∧ W.cell? ⟨w.heap.size, 1, none⟩ = some (.int .i64 tn) ∧ W.cell? ⟨w.heap.size, 2, none⟩ = some (.string ts) ∧ W.cell? ⟨w.heap.size, 3, none⟩ = some (.slice (some ⟨g, off, none⟩) 2 cap)) ∧ (W.cell? ⟨w.heap.size + 1 + 1, 0, none⟩ = some (.int .i64 K0.kind) ∧ W.cell? ⟨w.heap.size + 1 + 1, 1, none⟩ = some (.int .i64 K0.num) ∧ W.cell? ⟨w.heap.size + 1 + 1, 2, none⟩ = some (.string K0.name) ∧ W.cell? ⟨w.heap.size + 1 + 1, 3, none⟩ = some (.slice a0 l0 q0)) ∧ (W.cell? ⟨w.heap.size + 1, 0, none⟩ = some (.int .i64 K1.kind) ∧ W.cell? ⟨w.heap.size + 1, 1, none⟩ = some (.int .i64 K1.num) ∧ W.cell? ⟨w.heap.size + 1, 2, none⟩ = some (.string K1.name) ∧ W.cell? ⟨w.heap.size + 1, 3, none⟩ = some (.slice a1 l1 q1))) := by
    intro d' b' Y W h
    have e1 := h.kept HBUF.out w.heap.size (Nat.le_refl _) (by simp; omega)
    have e2 := h.kept HBUF.out (w.heap.size + 1) (by omega) (by simp)
    have e3 := h.kept HBUF.out (w.heap.size + 1 + 1) (by omega) (by simp)
    rw [e1, e1, e1, e1, e2, e2, e2, e2, e3, e3, e3, e3]
    refine ⟨⟨?_, ?_, ?_, ?_⟩, ⟨?_, ?_, ?_, ?_⟩, ⟨?_, ?_, ?_, ?_⟩⟩ <;> simp [go_sem]
  clear hbB
  have hwl : IntKind.i64.wrap ((lv : Int) + 1) = (lv : Int) + 1 := by simp [IntKind.wrap, IntKind.bits, IntKind.signed]; omega
  go_enter Tryz.func94, Tryz.ntmps94
  go_wp2
  first
    | go_region_held3 (fun W => W.cell? ⟨w.heap.size, 2, none⟩ = some (.string ts) ∧ W.cell? ⟨w.heap.size, 3, none⟩ = some (.slice (some ⟨g, off, none⟩) 2 cap) ∧ W.cell? ⟨g, off, none⟩ = some (.int .i64 K0.kind) ∧ W.cell? ⟨g, off + 1, none⟩ = some (.int .i64 K0.num) ∧ W.cell? ⟨g, off + 2, none⟩ = some (.string K0.name) ∧ W.cell? ⟨g, off + 3, none⟩ = some (.slice a0 l0 q0) ∧ W.cell? ⟨g, off + 4, none⟩ = some (.int .i64 K1.kind) ∧ W.cell? ⟨g, off + 4 + 1, none⟩ = some (.int .i64 K1.num) ∧ W.cell? ⟨g, off + 4 + 2, none⟩ = some (.string K1.name) ∧ W.cell? ⟨g, off + 4 + 3, none⟩ = some (.slice a1 l1 q1)) (go_keep) (first | (go_at_call 49; refine (HV.out _).mono ?_; rintro e w2 ⟨rfl, rfl⟩))
    | fail
  all_goals go_wp2_with fail
  · clear HPB HNB HGB HR0B HR1B HB0B HV HBUF HGW HR0W HR1W
    have HP := HPA
    have hp := HPA.out.drew
    obtain ⟨⟨b0, b1, b2, b3⟩, ⟨x0, x1, x2, x3⟩, ⟨y0, y1, y2, y3⟩⟩ := HNA.out _ _ _ _ hp; have HP := hid_mk hp; clear hp
    go_region_held3 (fun W => W.cell? ⟨w.heap.size + 1, 0, none⟩ = some (.int .i64 K0.kind) ∧ W.cell? ⟨w.heap.size + 1, 1, none⟩ = some (.int .i64 K0.num) ∧ W.cell? ⟨w.heap.size + 1, 2, none⟩ = some (.string K0.name) ∧ W.cell? ⟨w.heap.size + 1, 3, none⟩ = some (.slice a0 l0 q0)) (go_keep) (first
      | (go_at_call 101; refine (HBB0.out _ _ _ _).mono ?_; rintro e w3a ⟨rfl, hbm⟩; have hp := HP.out.drew.calm hbm; obtain ⟨⟨b0, b1, b2, b3⟩, ⟨x0, x1, x2, x3⟩, ⟨y0, y1, y2, y3⟩⟩ := HNA.out _ _ _ _ hp; have HP := hid_mk hp; clear hp hbm)
      | (go_at_call 99; refine (HP.out.group HI0.out _ _ HGA.out HF0.out HR0A.out HE0.out (by have := HB.out; simp at this ⊢; omega)).mono ?_; rintro e w3 ⟨⟨r, rfl⟩, hp⟩; obtain ⟨⟨b0, b1, b2, b3⟩, ⟨x0, x1, x2, x3⟩, ⟨y0, y1, y2, y3⟩⟩ := HNA.out _ _ _ _ hp; have HP := hid_mk hp; clear hp))
    all_goals go_wp2
    all_goals go_region_with (go_at_call_of 37 w3; refine (HP.out.putD [⟨#[32]⟩, ts, ⟨#[32]⟩] _ 3 _ (by simp) rfl rfl (by decide) (by have := HB.out; simp [txt] at this ⊢; omega)).mono ?_; rintro e w4 ⟨⟨r, rfl⟩, hp⟩; obtain ⟨⟨b0, b1, b2, b3⟩, ⟨x0, x1, x2, x3⟩, ⟨y0, y1, y2, y3⟩⟩ := HNA.out _ _ _ _ hp; have HP := hid_mk hp; clear hp)
    all_goals go_wp2
    all_goals go_region_held3 (fun W => W.cell? ⟨w.heap.size + 1 + 1, 0, none⟩ = some (.int .i64 K1.kind) ∧ W.cell? ⟨w.heap.size + 1 + 1, 1, none⟩ = some (.int .i64 K1.num) ∧ W.cell? ⟨w.heap.size + 1 + 1, 2, none⟩ = some (.string K1.name) ∧ W.cell? ⟨w.heap.size + 1 + 1, 3, none⟩ = some (.slice a1 l1 q1)) (go_keep) (first
      | (go_at_call 101; refine (HBB1.out _ _ _ _).mono ?_; rintro e w5a ⟨rfl, hbm⟩; have hp := HP.out.drew.calm hbm; obtain ⟨⟨b0, b1, b2, b3⟩, ⟨x0, x1, x2, x3⟩, ⟨y0, y1, y2, y3⟩⟩ := HNA.out _ _ _ _ hp; have HP := hid_mk hp; clear hp hbm)
      | (go_at_call 99; refine (HP.out.group HI1.out _ _ HGA.out HF1.out HR1A.out HE1.out (by have := HB.out; simp [txt] at this ⊢; omega)).mono ?_; rintro e w5 ⟨⟨r, rfl⟩, hp⟩; obtain ⟨⟨b0, b1, b2, b3⟩, ⟨x0, x1, x2, x3⟩, ⟨y0, y1, y2, y3⟩⟩ := HNA.out _ _ _ _ hp; have HP := hid_mk hp; clear hp))
    all_goals go_wp2
    all_goals go_end0
    all_goals exact IPst.addsOn HB0A.out HP.out (by simp [txt]) _
  · clear HPA HNA HGA HR0A HR1A HB0A HV HBUF HGW HR0W HR1W
    have HP := HPB
    have hp := HPB.out.drew
    obtain ⟨⟨b0, b1, b2, b3⟩, ⟨x0, x1, x2, x3⟩, ⟨y0, y1, y2, y3⟩⟩ := HNB.out _ _ _ _ hp; have HP := hid_mk hp; clear hp
    go_region_held3 (fun W => W.cell? ⟨w.heap.size + 1 + 1, 0, none⟩ = some (.int .i64 K0.kind) ∧ W.cell? ⟨w.heap.size + 1 + 1, 1, none⟩ = some (.int .i64 K0.num) ∧ W.cell? ⟨w.heap.size + 1 + 1, 2, none⟩ = some (.string K0.name) ∧ W.cell? ⟨w.heap.size + 1 + 1, 3, none⟩ = some (.slice a0 l0 q0)) (go_keep) (first
      | (go_at_call 101; refine (HBB0.out _ _ _ _).mono ?_; rintro e w3a ⟨rfl, hbm⟩; have hp := HP.out.drew.calm hbm; obtain ⟨⟨b0, b1, b2, b3⟩, ⟨x0, x1, x2, x3⟩, ⟨y0, y1, y2, y3⟩⟩ := HNB.out _ _ _ _ hp; have HP := hid_mk hp; clear hp hbm)
      | (go_at_call 99; refine (HP.out.group HI0.out _ _ HGB.out HF0.out HR0B.out HE0.out (by have := HB.out; simp at this ⊢; omega)).mono ?_; rintro e w3 ⟨⟨r, rfl⟩, hp⟩; obtain ⟨⟨b0, b1, b2, b3⟩, ⟨x0, x1, x2, x3⟩, ⟨y0, y1, y2, y3⟩⟩ := HNB.out _ _ _ _ hp; have HP := hid_mk hp; clear hp))
    all_goals go_wp2
    all_goals go_region_with (go_at_call_of 37 w3; refine (HP.out.putD [⟨#[32]⟩, ts, ⟨#[32]⟩] _ 3 _ (by simp) rfl rfl (by decide) (by have := HB.out; simp [txt] at this ⊢; omega)).mono ?_; rintro e w4 ⟨⟨r, rfl⟩, hp⟩; obtain ⟨⟨b0, b1, b2, b3⟩, ⟨x0, x1, x2, x3⟩, ⟨y0, y1, y2, y3⟩⟩ := HNB.out _ _ _ _ hp; have HP := hid_mk hp; clear hp)
    all_goals go_wp2
    all_goals go_region_held3 (fun W => W.cell? ⟨w.heap.size + 1, 0, none⟩ = some (.int .i64 K1.kind) ∧ W.cell? ⟨w.heap.size + 1, 1, none⟩ = some (.int .i64 K1.num) ∧ W.cell? ⟨w.heap.size + 1, 2, none⟩ = some (.string K1.name) ∧ W.cell? ⟨w.heap.size + 1, 3, none⟩ = some (.slice a1 l1 q1)) (go_keep) (first
      | (go_at_call 101; refine (HBB1.out _ _ _ _).mono ?_; rintro e w5a ⟨rfl, hbm⟩; have hp := HP.out.drew.calm hbm; obtain ⟨⟨b0, b1, b2, b3⟩, ⟨x0, x1, x2, x3⟩, ⟨y0, y1, y2, y3⟩⟩ := HNB.out _ _ _ _ hp; have HP := hid_mk hp; clear hp hbm)
      | (go_at_call 99; refine (HP.out.group HI1.out _ _ HGB.out HF1.out HR1B.out HE1.out (by have := HB.out; simp [txt] at this ⊢; omega)).mono ?_; rintro e w5 ⟨⟨r, rfl⟩, hp⟩; obtain ⟨⟨b0, b1, b2, b3⟩, ⟨x0, x1, x2, x3⟩, ⟨y0, y1, y2, y3⟩⟩ := HNB.out _ _ _ _ hp; have HP := hid_mk hp; clear hp))
    all_goals go_wp2
    all_goals go_end0
    all_goals exact IPst.addsOn HB0B.out HP.out (by simp [txt]) _
  · clear HPB HNB HGB HR0B HR1B HB0B HV HBUF HGW HR0W HR1W
    have HP := HPA
    have hp := HPA.out.drew
    obtain ⟨⟨b0, b1, b2, b3⟩, ⟨x0, x1, x2, x3⟩, ⟨y0, y1, y2, y3⟩⟩ := HNA.out _ _ _ _ hp; have HP := hid_mk hp; clear hp
    go_region_held3 (fun W => W.cell? ⟨w.heap.size + 1, 0, none⟩ = some (.int .i64 K0.kind) ∧ W.cell? ⟨w.heap.size + 1, 1, none⟩ = some (.int .i64 K0.num) ∧ W.cell? ⟨w.heap.size + 1, 2, none⟩ = some (.string K0.name) ∧ W.cell? ⟨w.heap.size + 1, 3, none⟩ = some (.slice a0 l0 q0)) (go_keep) (first
      | (go_at_call 101; refine (HBB0.out _ _ _ _).mono ?_; rintro e w3a ⟨rfl, hbm⟩; have hp := HP.out.drew.calm hbm; obtain ⟨⟨b0, b1, b2, b3⟩, ⟨x0, x1, x2, x3⟩, ⟨y0, y1, y2, y3⟩⟩ := HNA.out _ _ _ _ hp; have HP := hid_mk hp; clear hp hbm)
      | (go_at_call 99; refine (HP.out.group HI0.out _ _ HGA.out HF0.out HR0A.out HE0.out (by have := HB.out; simp at this ⊢; omega)).mono ?_; rintro e w3 ⟨⟨r, rfl⟩, hp⟩; obtain ⟨⟨b0, b1, b2, b3⟩, ⟨x0, x1, x2, x3⟩, ⟨y0, y1, y2, y3⟩⟩ := HNA.out _ _ _ _ hp; have HP := hid_mk hp; clear hp))
    all_goals go_wp2
    all_goals go_region_with (go_at_call_of 37 w3; refine (HP.out.putD [⟨#[32]⟩, ts, ⟨#[32]⟩] _ 3 _ (by simp) rfl rfl (by decide) (by have := HB.out; simp [txt] at this ⊢; omega)).mono ?_; rintro e w4 ⟨⟨r, rfl⟩, hp⟩; obtain ⟨⟨b0, b1, b2, b3⟩, ⟨x0, x1, x2, x3⟩, ⟨y0, y1, y2, y3⟩⟩ := HNA.out _ _ _ _ hp; have HP := hid_mk hp; clear hp)
    all_goals go_wp2
    all_goals go_region_held3 (fun W => W.cell? ⟨w.heap.size + 1 + 1, 0, none⟩ = some (.int .i64 K1.kind) ∧ W.cell? ⟨w.heap.size + 1 + 1, 1, none⟩ = some (.int .i64 K1.num) ∧ W.cell? ⟨w.heap.size + 1 + 1, 2, none⟩ = some (.string K1.name) ∧ W.cell? ⟨w.heap.size + 1 + 1, 3, none⟩ = some (.slice a1 l1 q1)) (go_keep) (first
      | (go_at_call 101; refine (HBB1.out _ _ _ _).mono ?_; rintro e w5a ⟨rfl, hbm⟩; have hp := HP.out.drew.calm hbm; obtain ⟨⟨b0, b1, b2, b3⟩, ⟨x0, x1, x2, x3⟩, ⟨y0, y1, y2, y3⟩⟩ := HNA.out _ _ _ _ hp; have HP := hid_mk hp; clear hp hbm)
      | (go_at_call 99; refine (HP.out.group HI1.out _ _ HGA.out HF1.out HR1A.out HE1.out (by have := HB.out; simp [txt] at this ⊢; omega)).mono ?_; rintro e w5 ⟨⟨r, rfl⟩, hp⟩; obtain ⟨⟨b0, b1, b2, b3⟩, ⟨x0, x1, x2, x3⟩, ⟨y0, y1, y2, y3⟩⟩ := HNA.out _ _ _ _ hp; have HP := hid_mk hp; clear hp))
    all_goals go_wp2
    all_goals go_end0
    all_goals exact IPst.addsOn HB0A.out HP.out (by simp [txt]) _
  · clear HPB HNB HGB HR0B HR1B HB0B HV HBUF HGW HR0W HR1W
    have HP := HPA
    have hp := HPA.out.drew
    obtain ⟨⟨b0, b1, b2, b3⟩, ⟨x0, x1, x2, x3⟩, ⟨y0, y1, y2, y3⟩⟩ := HNA.out _ _ _ _ hp; have HP := hid_mk hp; clear hp
    go_region_held3 (fun W => W.cell? ⟨w.heap.size + 1, 0, none⟩ = some (.int .i64 K0.kind) ∧ W.cell? ⟨w.heap.size + 1, 1, none⟩ = some (.int .i64 K0.num) ∧ W.cell? ⟨w.heap.size + 1, 2, none⟩ = some (.string K0.name) ∧ W.cell? ⟨w.heap.size + 1, 3, none⟩ = some (.slice a0 l0 q0)) (go_keep) (first
      | (go_at_call 101; refine (HBB0.out _ _ _ _).mono ?_; rintro e w3a ⟨rfl, hbm⟩; have hp := HP.out.drew.calm hbm; obtain ⟨⟨b0, b1, b2, b3⟩, ⟨x0, x1, x2, x3⟩, ⟨y0, y1, y2, y3⟩⟩ := HNA.out _ _ _ _ hp; have HP := hid_mk hp; clear hp hbm)
      | (go_at_call 99; refine (HP.out.group HI0.out _ _ HGA.out HF0.out HR0A.out HE0.out (by have := HB.out; simp at this ⊢; omega)).mono ?_; rintro e w3 ⟨⟨r, rfl⟩, hp⟩; obtain ⟨⟨b0, b1, b2, b3⟩, ⟨x0, x1, x2, x3⟩, ⟨y0, y1, y2, y3⟩⟩ := HNA.out _ _ _ _ hp; have HP := hid_mk hp; clear hp))
    all_goals go_wp2
    all_goals go_region_with (go_at_call_of 37 w3; refine (HP.out.putD [⟨#[32]⟩, ts, ⟨#[32]⟩] _ 3 _ (by simp) rfl rfl (by decide) (by have := HB.out; simp [txt] at this ⊢; omega)).mono ?_; rintro e w4 ⟨⟨r, rfl⟩, hp⟩; obtain ⟨⟨b0, b1, b2, b3⟩, ⟨x0, x1, x2, x3⟩, ⟨y0, y1, y2, y3⟩⟩ := HNA.out _ _ _ _ hp; have HP := hid_mk hp; clear hp)
    all_goals go_wp2
    all_goals go_region_held3 (fun W => W.cell? ⟨w.heap.size + 1 + 1, 0, none⟩ = some (.int .i64 K1.kind) ∧ W.cell? ⟨w.heap.size + 1 + 1, 1, none⟩ = some (.int .i64 K1.num) ∧ W.cell? ⟨w.heap.size + 1 + 1, 2, none⟩ = some (.string K1.name) ∧ W.cell? ⟨w.heap.size + 1 + 1, 3, none⟩ = some (.slice a1 l1 q1)) (go_keep) (first
      | (go_at_call 101; refine (HBB1.out _ _ _ _).mono ?_; rintro e w5a ⟨rfl, hbm⟩; have hp := HP.out.drew.calm hbm; obtain ⟨⟨b0, b1, b2, b3⟩, ⟨x0, x1, x2, x3⟩, ⟨y0, y1, y2, y3⟩⟩ := HNA.out _ _ _ _ hp; have HP := hid_mk hp; clear hp hbm)
      | (go_at_call 99; refine (HP.out.group HI1.out _ _ HGA.out HF1.out HR1A.out HE1.out (by have := HB.out; simp [txt] at this ⊢; omega)).mono ?_; rintro e w5 ⟨⟨r, rfl⟩, hp⟩; obtain ⟨⟨b0, b1, b2, b3⟩, ⟨x0, x1, x2, x3⟩, ⟨y0, y1, y2, y3⟩⟩ := HNA.out _ _ _ _ hp; have HP := hid_mk hp; clear hp))
    all_goals go_wp2
    all_goals go_end0
    all_goals exact IPst.addsOn HB0A.out HP.out (by simp [txt]) _
  · clear HPA HNA HGA HR0A HR1A HB0A HV HBUF HGW HR0W HR1W
    have HP := HPB
    have hp := HPB.out.drew
    obtain ⟨⟨b0, b1, b2, b3⟩, ⟨x0, x1, x2, x3⟩, ⟨y0, y1, y2, y3⟩⟩ := HNB.out _ _ _ _ hp; have HP := hid_mk hp; clear hp
    go_region_held3 (fun W => W.cell? ⟨w.heap.size + 1 + 1, 0, none⟩ = some (.int .i64 K0.kind) ∧ W.cell? ⟨w.heap.size + 1 + 1, 1, none⟩ = some (.int .i64 K0.num) ∧ W.cell? ⟨w.heap.size + 1 + 1, 2, none⟩ = some (.string K0.name) ∧ W.cell? ⟨w.heap.size + 1 + 1, 3, none⟩ = some (.slice a0 l0 q0)) (go_keep) (first
      | (go_at_call 101; refine (HBB0.out _ _ _ _).mono ?_; rintro e w3a ⟨rfl, hbm⟩; have hp := HP.out.drew.calm hbm; obtain ⟨⟨b0, b1, b2, b3⟩, ⟨x0, x1, x2, x3⟩, ⟨y0, y1, y2, y3⟩⟩ := HNB.out _ _ _ _ hp; have HP := hid_mk hp; clear hp hbm)
      | (go_at_call 99; refine (HP.out.group HI0.out _ _ HGB.out HF0.out HR0B.out HE0.out (by have := HB.out; simp at this ⊢; omega)).mono ?_; rintro e w3 ⟨⟨r, rfl⟩, hp⟩; obtain ⟨⟨b0, b1, b2, b3⟩, ⟨x0, x1, x2, x3⟩, ⟨y0, y1, y2, y3⟩⟩ := HNB.out _ _ _ _ hp; have HP := hid_mk hp; clear hp))
    all_goals go_wp2
    all_goals go_region_with (go_at_call_of 37 w3; refine (HP.out.putD [⟨#[32]⟩, ts, ⟨#[32]⟩] _ 3 _ (by simp) rfl rfl (by decide) (by have := HB.out; simp [txt] at this ⊢; omega)).mono ?_; rintro e w4 ⟨⟨r, rfl⟩, hp⟩; obtain ⟨⟨b0, b1, b2, b3⟩, ⟨x0, x1, x2, x3⟩, ⟨y0, y1, y2, y3⟩⟩ := HNB.out _ _ _ _ hp; have HP := hid_mk hp; clear hp)
    all_goals go_wp2
    all_goals go_region_held3 (fun W => W.cell? ⟨w.heap.size + 1, 0, none⟩ = some (.int .i64 K1.kind) ∧ W.cell? ⟨w.heap.size + 1, 1, none⟩ = some (.int .i64 K1.num) ∧ W.cell? ⟨w.heap.size + 1, 2, none⟩ = some (.string K1.name) ∧ W.cell? ⟨w.heap.size + 1, 3, none⟩ = some (.slice a1 l1 q1)) (go_keep) (first
      | (go_at_call 101; refine (HBB1.out _ _ _ _).mono ?_; rintro e w5a ⟨rfl, hbm⟩; have hp := HP.out.drew.calm hbm; obtain ⟨⟨b0, b1, b2, b3⟩, ⟨x0, x1, x2, x3⟩, ⟨y0, y1, y2, y3⟩⟩ := HNB.out _ _ _ _ hp; have HP := hid_mk hp; clear hp hbm)
      | (go_at_call 99; refine (HP.out.group HI1.out _ _ HGB.out HF1.out HR1B.out HE1.out (by have := HB.out; simp [txt] at this ⊢; omega)).mono ?_; rintro e w5 ⟨⟨r, rfl⟩, hp⟩; obtain ⟨⟨b0, b1, b2, b3⟩, ⟨x0, x1, x2, x3⟩, ⟨y0, y1, y2, y3⟩⟩ := HNB.out _ _ _ _ hp; have HP := hid_mk hp; clear hp))
    all_goals go_wp2
    all_goals go_end0
    all_goals exact IPst.addsOn HB0B.out HP.out (by simp [txt]) _
  · clear HPA HNA HGA HR0A HR1A HB0A HV HBUF HGW HR0W HR1W
    have HP := HPB
    have hp := HPB.out.drew
    obtain ⟨⟨b0, b1, b2, b3⟩, ⟨x0, x1, x2, x3⟩, ⟨y0, y1, y2, y3⟩⟩ := HNB.out _ _ _ _ hp; have HP := hid_mk hp; clear hp
    go_region_held3 (fun W => W.cell? ⟨w.heap.size + 1 + 1, 0, none⟩ = some (.int .i64 K0.kind) ∧ W.cell? ⟨w.heap.size + 1 + 1, 1, none⟩ = some (.int .i64 K0.num) ∧ W.cell? ⟨w.heap.size + 1 + 1, 2, none⟩ = some (.string K0.name) ∧ W.cell? ⟨w.heap.size + 1 + 1, 3, none⟩ = some (.slice a0 l0 q0)) (go_keep) (first
      | (go_at_call 101; refine (HBB0.out _ _ _ _).mono ?_; rintro e w3a ⟨rfl, hbm⟩; have hp := HP.out.drew.calm hbm; obtain ⟨⟨b0, b1, b2, b3⟩, ⟨x0, x1, x2, x3⟩, ⟨y0, y1, y2, y3⟩⟩ := HNB.out _ _ _ _ hp; have HP := hid_mk hp; clear hp hbm)
      | (go_at_call 99; refine (HP.out.group HI0.out _ _ HGB.out HF0.out HR0B.out HE0.out (by have := HB.out; simp at this ⊢; omega)).mono ?_; rintro e w3 ⟨⟨r, rfl⟩, hp⟩; obtain ⟨⟨b0, b1, b2, b3⟩, ⟨x0, x1, x2, x3⟩, ⟨y0, y1, y2, y3⟩⟩ := HNB.out _ _ _ _ hp; have HP := hid_mk hp; clear hp))
    all_goals go_wp2
    all_goals go_region_with (go_at_call_of 37 w3; refine (HP.out.putD [⟨#[32]⟩, ts, ⟨#[32]⟩] _ 3 _ (by simp) rfl rfl (by decide) (by have := HB.out; simp [txt] at this ⊢; omega)).mono ?_; rintro e w4 ⟨⟨r, rfl⟩, hp⟩; obtain ⟨⟨b0, b1, b2, b3⟩, ⟨x0, x1, x2, x3⟩, ⟨y0, y1, y2, y3⟩⟩ := HNB.out _ _ _ _ hp; have HP := hid_mk hp; clear hp)
    all_goals go_wp2
    all_goals go_region_held3 (fun W => W.cell? ⟨w.heap.size + 1, 0, none⟩ = some (.int .i64 K1.kind) ∧ W.cell? ⟨w.heap.size + 1, 1, none⟩ = some (.int .i64 K1.num) ∧ W.cell? ⟨w.heap.size + 1, 2, none⟩ = some (.string K1.name) ∧ W.cell? ⟨w.heap.size + 1, 3, none⟩ = some (.slice a1 l1 q1)) (go_keep) (first
      | (go_at_call 101; refine (HBB1.out _ _ _ _).mono ?_; rintro e w5a ⟨rfl, hbm⟩; have hp := HP.out.drew.calm hbm; obtain ⟨⟨b0, b1, b2, b3⟩, ⟨x0, x1, x2, x3⟩, ⟨y0, y1, y2, y3⟩⟩ := HNB.out _ _ _ _ hp; have HP := hid_mk hp; clear hp hbm)
      | (go_at_call 99; refine (HP.out.group HI1.out _ _ HGB.out HF1.out HR1B.out HE1.out (by have := HB.out; simp [txt] at this ⊢; omega)).mono ?_; rintro e w5 ⟨⟨r, rfl⟩, hp⟩; obtain ⟨⟨b0, b1, b2, b3⟩, ⟨x0, x1, x2, x3⟩, ⟨y0, y1, y2, y3⟩⟩ := HNB.out _ _ _ _ hp; have HP := hid_mk hp; clear hp))
    all_goals go_wp2
    all_goals go_end0
    all_goals exact IPst.addsOn HB0B.out HP.out (by simp [txt]) _

end Go.Proofs.YtacamenjijlemaaGreatDoor
