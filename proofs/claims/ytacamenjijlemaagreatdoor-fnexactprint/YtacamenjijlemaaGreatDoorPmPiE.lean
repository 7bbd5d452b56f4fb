/- The program's printer: expressions. -/
import Derived.Test.YtacamenjijlemaaGreatDoorPmPiA
import Derived.Test.YtacamenjijlemaaGreatDoorPmPiD
import Derived.Deep.RegionHeld3
import Derived.StillTailTactics
import Derived.WalkSpells
import Derived.WalkSmall
set_option linter.unusedVariables false
namespace Go.Proofs.YtacamenjijlemaaGreatDoor
open Go.RowKit
theorem below_grow {w w' : World} (h : ∃ k os, w' = Sort.grow (w.drewN k) os) : Below w.heap.size w w' := by
  obtain ⟨k, os, rfl⟩ := h
  refine ⟨rfl, rfl, rfl, ?_, fun j hj => ?_⟩
  · show w.heap.size ≤ (w.heap ++ os).size
    simp
  · show (w.heap ++ os)[j]? = w.heap[j]?
    rw [Array.getElem?_append_left hj]

set_option maxHeartbeats 4000000 in
set_option maxRecDepth 100000 in
theorem ie_24 (T : Nd) (hk : T.kind = 24) (hok : T.eOk = true) : IW 83 T (fun d => (prN T).ex 1) := by
  intro pb own X d b w v hbuf hg hf hr hb
  have hn := T.fine_len hf
  rw [ex_text_24 T hk] at hb ⊢
  obtain ⟨a, cap, rfl, _⟩ := row_eq.1 hr
  have hval : T.val (.slice a T.len cap) = .agg #[.int .i64 24, .int .i64 T.num, .string T.name, .slice a T.len cap] := by unfold Nd.val; rw [hk]
  rw [hval]
  have hb0 : Below w.heap.size w (w.alloc (.cells #[.int .i64 24, .int .i64 T.num, .string T.name, .slice a T.len cap] 30)) := ((Below.refl w.heap.size w).alloc (Nat.le_refl _) _)
  have HP := hid_mk (IPst.startOn hbuf hb0)
  have HN := hid_mk (fun d' b' Y W (h : IPst pb own (w.alloc (.cells #[.int .i64 24, .int .i64 T.num, .string T.name, .slice a T.len cap] 30)) d' b' Y W) => (show W.cell? ⟨w.heap.size, 0, none⟩ = some (.int .i64 24) ∧ W.cell? ⟨w.heap.size, 1, none⟩ = some (.int .i64 T.num) ∧ W.cell? ⟨w.heap.size, 2, none⟩ = some (.string T.name) ∧ W.cell? ⟨w.heap.size, 3, none⟩ = some (.slice a T.len cap) by
    have e := h.kept hbuf w.heap.size (Nat.le_refl _) (by simp)
    rw [e, e, e, e]; refine ⟨?_, ?_, ?_, ?_⟩ <;> simp [go_sem]))
  have HG := hid_mk (gl_on hbuf hb0 hg)
  have HB0 := hid_mk hb0
  have HB := hid_mk hb
  clear hok hk hb hr hf hbuf hg hval hb0
  generalize T.name = ts at *
  generalize T.num = tn at *
  go_enter Tryz.func83, Tryz.ntmps83
  go_wp2
  go_region_with (first
    | (go_at_call_of 37 w; refine (HP.out.putD [ts] _ 1 _ (by simp) rfl rfl (by decide) (by have := HB.out; simp [txt] at this ⊢; omega)).mono ?_; rintro e w2 ⟨⟨r, rfl⟩, hp⟩; obtain ⟨b0, b1, b2, b3⟩ := HN.out _ _ _ _ hp; have HP := hid_mk hp; clear hp))
  go_wp2
  go_end0
  exact IPst.addsOn HB0.out HP.out (by simp [txt]) _
theorem chan_text {T : Nd} (hk : T.kind = 26) (hok : T.eOk = true) : (prN T).ex 1 = [109, 97, 107, 101, 40, 99, 104, 97, 110, 32, 105, 110, 116] ++ (catTo (fun i => [44, 32] ++ (prN (T.kids i)).ex 1) T.len ++ [41]) := by
  rw [ex_text_26 T hk]
  have := (ex_ok_26 hk hok).1
  have h : T.len = 0 ∨ T.len = 1 := by omega
  rcases h with h | h <;> simp [h, catTo]

set_option maxHeartbeats 4000000 in
set_option maxRecDepth 100000 in
theorem ie_26 (T : Nd) (hk : T.kind = 26) (hW : IW 92 T (fun _ => (prN T).ex 1)) : IW 83 T (fun d => (prN T).ex 1) := by
  intro pb own X d b w v hbuf hg hf hr hb
  have hn := T.fine_len hf
  obtain ⟨a, cap, rfl, _⟩ := row_eq.1 hr
  have hval : T.val (.slice a T.len cap) = .agg #[.int .i64 26, .int .i64 T.num, .string T.name, .slice a T.len cap] := by unfold Nd.val; rw [hk]
  rw [hval]
  have hb0 : Below w.heap.size w (w.alloc (.cells #[.int .i64 26, .int .i64 T.num, .string T.name, .slice a T.len cap] 30)) := ((Below.refl w.heap.size w).alloc (Nat.le_refl _) _)
  have HP := hid_mk (IPst.startOn hbuf hb0)
  have HN := hid_mk (fun d' b' Y W (h : IPst pb own (w.alloc (.cells #[.int .i64 26, .int .i64 T.num, .string T.name, .slice a T.len cap] 30)) d' b' Y W) => (show W.cell? ⟨w.heap.size, 0, none⟩ = some (.int .i64 26) ∧ W.cell? ⟨w.heap.size, 1, none⟩ = some (.int .i64 T.num) ∧ W.cell? ⟨w.heap.size, 2, none⟩ = some (.string T.name) ∧ W.cell? ⟨w.heap.size, 3, none⟩ = some (.slice a T.len cap) by
    have e := h.kept hbuf w.heap.size (Nat.le_refl _) (by simp)
    rw [e, e, e, e]; refine ⟨?_, ?_, ?_, ?_⟩ <;> simp [go_sem]))
  have HG := hid_mk (gl_on hbuf hb0 hg)
  have HB0 := hid_mk hb0
  have HV := hid_mk (fun b' Y W (h : IPst pb own (w.alloc (.cells #[.int .i64 26, .int .i64 T.num, .string T.name, .slice a T.len cap] 30)) d b' Y W) hb => h.fn hW (.slice a T.len cap) (gl_on hbuf hb0 hg) hf (row_on hbuf hb0 hr) hb)
  rw [hval] at HV
  have HB := hid_mk hb
  clear hk hb hr hf hbuf hg hval hb0
  generalize (prN T).ex 1 = tx at *
  generalize T.name = ts at *
  generalize T.num = tn at *
  go_enter Tryz.func83, Tryz.ntmps83
  go_wp2_with (go_at_call 92; refine (HV.out _ _ _ HP.out HB.out).mono ?_; rintro e w2 ⟨⟨r, rfl⟩, hp⟩; have HP := hid_mk hp; clear hp)
  go_end0
  exact IPst.addsOn HB0.out HP.out rfl _

set_option maxHeartbeats 4000000 in
set_option maxRecDepth 100000 in
theorem ie_27 (T : Nd) (hk : T.kind = 27) (hW : IW 93 T (fun _ => (prN T).ex 1)) : IW 83 T (fun d => (prN T).ex 1) := by
  intro pb own X d b w v hbuf hg hf hr hb
  have hn := T.fine_len hf
  obtain ⟨a, cap, rfl, _⟩ := row_eq.1 hr
  have hval : T.val (.slice a T.len cap) = .agg #[.int .i64 27, .int .i64 T.num, .string T.name, .slice a T.len cap] := by unfold Nd.val; rw [hk]
  rw [hval]
  have hb0 : Below w.heap.size w (w.alloc (.cells #[.int .i64 27, .int .i64 T.num, .string T.name, .slice a T.len cap] 30)) := ((Below.refl w.heap.size w).alloc (Nat.le_refl _) _)
  have HP := hid_mk (IPst.startOn hbuf hb0)
  have HN := hid_mk (fun d' b' Y W (h : IPst pb own (w.alloc (.cells #[.int .i64 27, .int .i64 T.num, .string T.name, .slice a T.len cap] 30)) d' b' Y W) => (show W.cell? ⟨w.heap.size, 0, none⟩ = some (.int .i64 27) ∧ W.cell? ⟨w.heap.size, 1, none⟩ = some (.int .i64 T.num) ∧ W.cell? ⟨w.heap.size, 2, none⟩ = some (.string T.name) ∧ W.cell? ⟨w.heap.size, 3, none⟩ = some (.slice a T.len cap) by
    have e := h.kept hbuf w.heap.size (Nat.le_refl _) (by simp)
    rw [e, e, e, e]; refine ⟨?_, ?_, ?_, ?_⟩ <;> simp [go_sem]))
  have HG := hid_mk (gl_on hbuf hb0 hg)
  have HB0 := hid_mk hb0
  have HV := hid_mk (fun b' Y W (h : IPst pb own (w.alloc (.cells #[.int .i64 27, .int .i64 T.num, .string T.name, .slice a T.len cap] 30)) d b' Y W) hb => h.fn hW (.slice a T.len cap) (gl_on hbuf hb0 hg) hf (row_on hbuf hb0 hr) hb)
  rw [hval] at HV
  have HB := hid_mk hb
  clear hk hb hr hf hbuf hg hval hb0
  generalize (prN T).ex 1 = tx at *
  generalize T.name = ts at *
  generalize T.num = tn at *
  go_enter Tryz.func83, Tryz.ntmps83
  go_wp2_with (go_at_call 93; refine (HV.out _ _ _ HP.out HB.out).mono ?_; rintro e w2 ⟨⟨r, rfl⟩, hp⟩; have HP := hid_mk hp; clear hp)
  go_end0
  exact IPst.addsOn HB0.out HP.out rfl _

set_option maxHeartbeats 4000000 in
set_option maxRecDepth 100000 in
theorem ie_28 (T : Nd) (hk : T.kind = 28) (hW : IW 94 T (fun _ => (prN T).ex 1)) : IW 83 T (fun d => (prN T).ex 1) := by
  intro pb own X d b w v hbuf hg hf hr hb
  have hn := T.fine_len hf
  obtain ⟨a, cap, rfl, _⟩ := row_eq.1 hr
  have hval : T.val (.slice a T.len cap) = .agg #[.int .i64 28, .int .i64 T.num, .string T.name, .slice a T.len cap] := by unfold Nd.val; rw [hk]
  rw [hval]
  have hb0 : Below w.heap.size w (w.alloc (.cells #[.int .i64 28, .int .i64 T.num, .string T.name, .slice a T.len cap] 30)) := ((Below.refl w.heap.size w).alloc (Nat.le_refl _) _)
  have HP := hid_mk (IPst.startOn hbuf hb0)
  have HN := hid_mk (fun d' b' Y W (h : IPst pb own (w.alloc (.cells #[.int .i64 28, .int .i64 T.num, .string T.name, .slice a T.len cap] 30)) d' b' Y W) => (show W.cell? ⟨w.heap.size, 0, none⟩ = some (.int .i64 28) ∧ W.cell? ⟨w.heap.size, 1, none⟩ = some (.int .i64 T.num) ∧ W.cell? ⟨w.heap.size, 2, none⟩ = some (.string T.name) ∧ W.cell? ⟨w.heap.size, 3, none⟩ = some (.slice a T.len cap) by
    have e := h.kept hbuf w.heap.size (Nat.le_refl _) (by simp)
    rw [e, e, e, e]; refine ⟨?_, ?_, ?_, ?_⟩ <;> simp [go_sem]))
  have HG := hid_mk (gl_on hbuf hb0 hg)
  have HB0 := hid_mk hb0
  have HV := hid_mk (fun b' Y W (h : IPst pb own (w.alloc (.cells #[.int .i64 28, .int .i64 T.num, .string T.name, .slice a T.len cap] 30)) d b' Y W) hb => h.fn hW (.slice a T.len cap) (gl_on hbuf hb0 hg) hf (row_on hbuf hb0 hr) hb)
  rw [hval] at HV
  have HB := hid_mk hb
  clear hk hb hr hf hbuf hg hval hb0
  generalize (prN T).ex 1 = tx at *
  generalize T.name = ts at *
  generalize T.num = tn at *
  go_enter Tryz.func83, Tryz.ntmps83
  go_wp2_with (go_at_call 94; refine (HV.out _ _ _ HP.out HB.out).mono ?_; rintro e w2 ⟨⟨r, rfl⟩, hp⟩; have HP := hid_mk hp; clear hp)
  go_end0
  exact IPst.addsOn HB0.out HP.out rfl _

set_option maxHeartbeats 4000000 in
set_option maxRecDepth 100000 in
theorem ie_29 (T : Nd) (hk : T.kind = 29) (hok : T.eOk = true) (ih : ∀ i, i < T.len → IEx (T.kids i)) : IW 83 T (fun d => (prN T).ex 1) := by
  intro pb own X d b w v hbuf hg hf hr hb
  have hn := T.fine_len hf
  obtain ⟨hlen, hE0⟩ := ex_ok_29 hk hok
  rw [ex_text_29 T hk] at hb ⊢
  obtain ⟨g, off, cap, rfl, hgp, hcap, hkid⟩ := kid_at hr (by omega)
  obtain ⟨u0, hc0, hr0⟩ := hkid 0 (by omega)
  simp only [Nat.zero_mul, Nat.add_zero] at hc0
  have hlt0 : 0 < T.len := by omega
  have hval : T.val (.slice (some ⟨g, off, none⟩) T.len cap) = .agg #[.int .i64 29, .int .i64 T.num, .string T.name, .slice (some ⟨g, off, none⟩) T.len cap] := by unfold Nd.val; rw [hk]
  rw [hval]
  have hb0 : Below w.heap.size w (w.alloc (.cells #[.int .i64 29, .int .i64 T.num, .string T.name, .slice (some ⟨g, off, none⟩) T.len cap] 30)) := ((Below.refl w.heap.size w).alloc (Nat.le_refl _) _)
  have HP := hid_mk (IPst.startOn hbuf hb0)
  have HN := hid_mk (fun d' b' Y W (h : IPst pb own (w.alloc (.cells #[.int .i64 29, .int .i64 T.num, .string T.name, .slice (some ⟨g, off, none⟩) T.len cap] 30)) d' b' Y W) => (show W.cell? ⟨w.heap.size, 0, none⟩ = some (.int .i64 29) ∧ W.cell? ⟨w.heap.size, 1, none⟩ = some (.int .i64 T.num) ∧ W.cell? ⟨w.heap.size, 2, none⟩ = some (.string T.name) ∧ W.cell? ⟨w.heap.size, 3, none⟩ = some (.slice (some ⟨g, off, none⟩) T.len cap) by
    have e := h.kept hbuf w.heap.size (Nat.le_refl _) (by simp)
    rw [e, e, e, e]; refine ⟨?_, ?_, ?_, ?_⟩ <;> simp [go_sem]))
  have HG := hid_mk (gl_on hbuf hb0 hg)
  have HB0 := hid_mk hb0
  have HC0 := hid_mk (fun d' b' Y W (h : IPst pb own (w.alloc (.cells #[.int .i64 29, .int .i64 T.num, .string T.name, .slice (some ⟨g, off, none⟩) T.len cap] 30)) d' b' Y W) => hc0 W (h.belowOn hbuf hb0))
  have HR0 := hid_mk (row_on hbuf hb0 hr0)
  have HF0 := hid_mk (Nd.fine_kid hf hlt0)
  have HB := hid_mk hb
  obtain ⟨c00, c01, c02, c03⟩ := HC0.out _ _ _ _ HP.out
  have HV := hid_mk (recv_of (T.kids 0) (ih 0 hlt0) hE0)
  clear ih hok hk hlen hE0 hb hr hf hbuf hg hval hb0 hc0 hr0 hkid hcap
  generalize T.kids 0 = K0 at *
  generalize T.name = ts at *
  generalize T.num = tn at *
  go_enter Tryz.func83, Tryz.ntmps83
  go_wp2_with (first
    | (go_at_call_of 95 u0; refine (HP.out.fn HV.out u0 HG.out HF0.out HR0.out (by have := HB.out; simp at this ⊢; omega)).mono ?_; rintro e w2 ⟨⟨r, rfl⟩, hp⟩; obtain ⟨b0, b1, b2, b3⟩ := HN.out _ _ _ _ hp; obtain ⟨c00, c01, c02, c03⟩ := HC0.out _ _ _ _ hp; have HP := hid_mk hp; clear hp))
  go_end0
  exact IPst.addsOn HB0.out HP.out (by simp) _

set_option maxHeartbeats 4000000 in
set_option maxRecDepth 100000 in
theorem ie_25 (T : Nd) (hk : T.kind = 25) (hok : T.eOk = true) (ih : ∀ i, i < T.len → IEx (T.kids i)) : IW 83 T (fun d => (prN T).ex 1) := by
  intro pb own X d b w v hbuf hg hf hr hb
  have hn := T.fine_len hf
  rw [ex_text_25 T hk] at hb ⊢
  obtain ⟨a, cap, rfl, _⟩ := row_eq.1 hr
  have hval : T.val (.slice a T.len cap) = .agg #[.int .i64 25, .int .i64 T.num, .string T.name, .slice a T.len cap] := by unfold Nd.val; rw [hk]
  rw [hval]
  have hb0 : Below w.heap.size w (w.alloc (.cells #[.int .i64 25, .int .i64 T.num, .string T.name, .slice a T.len cap] 30)) := ((Below.refl w.heap.size w).alloc (Nat.le_refl _) _)
  have HP := hid_mk (IPst.startOn hbuf hb0)
  have HN := hid_mk (fun d' b' Y W (h : IPst pb own (w.alloc (.cells #[.int .i64 25, .int .i64 T.num, .string T.name, .slice a T.len cap] 30)) d' b' Y W) => (show W.cell? ⟨w.heap.size, 0, none⟩ = some (.int .i64 25) ∧ W.cell? ⟨w.heap.size, 1, none⟩ = some (.int .i64 T.num) ∧ W.cell? ⟨w.heap.size, 2, none⟩ = some (.string T.name) ∧ W.cell? ⟨w.heap.size, 3, none⟩ = some (.slice a T.len cap) by
    have e := h.kept hbuf w.heap.size (Nat.le_refl _) (by simp)
    rw [e, e, e, e]; refine ⟨?_, ?_, ?_, ?_⟩ <;> simp [go_sem]))
  have HG := hid_mk (gl_on hbuf hb0 hg)
  have HB0 := hid_mk hb0
  have HV := hid_mk (fun b' Y W (h : IPst pb own (w.alloc (.cells #[.int .i64 25, .int .i64 T.num, .string T.name, .slice a T.len cap] 30)) d b' Y W) hb => h.callw T.name ih (ex_ok_25 hk hok) (.slice a T.len cap) (gl_on hbuf hb0 hg) hf (row_on hbuf hb0 hr) hb)
  have HB := hid_mk hb
  clear ih hok hk hb hr hf hbuf hg hval hb0
  generalize catTo (fun i => (if i = 0 then [] else [44, 32]) ++ (prN (T.kids i)).ex 1) T.len = tx at *
  generalize T.name = ts at *
  generalize T.num = tn at *
  go_enter Tryz.func83, Tryz.ntmps83
  go_wp2_with (go_at_call 88; refine (HV.out _ _ _ HP.out HB.out).mono ?_; rintro e w2 ⟨⟨r, rfl⟩, hp⟩; have HP := hid_mk hp; clear hp)
  go_end0
  exact IPst.addsOn HB0.out HP.out rfl _
theorem bool_dig (n : Int) (h : n = 0 ∨ n = 1) : (⟨(Lib.formatBool (n == 1)).toArray⟩ : ByteArray).data.toList = (if n = 0 then [102, 97, 108, 115, 101] else [116, 114, 117, 101]) := by
  rcases h with rfl | rfl <;> decide

set_option maxHeartbeats 4000000 in
set_option maxRecDepth 100000 in
theorem ie_23 (T : Nd) (hk : T.kind = 23) (hok : T.eOk = true) : IW 83 T (fun d => (prN T).ex 1) := by
  intro pb own X d b w v hbuf hg hf hr hb
  have hn := T.fine_len hf
  have hnn := ex_ok_23 hk hok
  rw [ex_text_23 T hk, ← bool_dig T.num hnn] at hb ⊢
  obtain ⟨a, cap, rfl, _⟩ := row_eq.1 hr
  have hval : T.val (.slice a T.len cap) = .agg #[.int .i64 23, .int .i64 T.num, .string T.name, .slice a T.len cap] := by unfold Nd.val; rw [hk]
  rw [hval]
  have hb0 : Below w.heap.size w (w.alloc (.cells #[.int .i64 23, .int .i64 T.num, .string T.name, .slice a T.len cap] 30)) := ((Below.refl w.heap.size w).alloc (Nat.le_refl _) _)
  have HP := hid_mk (IPst.startOn hbuf hb0)
  have HN := hid_mk (fun d' b' Y W (h : IPst pb own (w.alloc (.cells #[.int .i64 23, .int .i64 T.num, .string T.name, .slice a T.len cap] 30)) d' b' Y W) => (show W.cell? ⟨w.heap.size, 0, none⟩ = some (.int .i64 23) ∧ W.cell? ⟨w.heap.size, 1, none⟩ = some (.int .i64 T.num) ∧ W.cell? ⟨w.heap.size, 2, none⟩ = some (.string T.name) ∧ W.cell? ⟨w.heap.size, 3, none⟩ = some (.slice a T.len cap) by
    have e := h.kept hbuf w.heap.size (Nat.le_refl _) (by simp)
    rw [e, e, e, e]; refine ⟨?_, ?_, ?_, ?_⟩ <;> simp [go_sem]))
  have HG := hid_mk (gl_on hbuf hb0 hg)
  have HB0 := hid_mk hb0
  have HB := hid_mk hb
  have HV := hid_mk (fun W : World => Tryz.strconv_FormatBool (T.num == 1) W)
  clear hnn hok hk hb hr hf hbuf hg hval hb0
  generalize (⟨(Lib.formatBool (T.num == 1)).toArray⟩ : ByteArray) = fb at *
  generalize T.name = ts at *
  generalize T.num = tn at *
  go_enter Tryz.func83, Tryz.ntmps83
  go_wp2
  go_region_with (first
    | (go_at_call 91; refine (HV.out _).mono ?_; rintro e w2 ⟨rfl, rfl⟩)
    | (go_at_call_of 37 w; refine (HP.out.putD [fb] _ 1 _ (by simp) rfl rfl (by decide) (by have := HB.out; simp [txt] at this ⊢; omega)).mono ?_; rintro e w3 ⟨⟨r, rfl⟩, hp⟩; obtain ⟨b0, b1, b2, b3⟩ := HN.out _ _ _ _ hp; have HP := hid_mk hp; clear hp))
  go_wp2
  go_end0
  exact IPst.addsOn HB0.out HP.out (by simp [txt]) _
theorem dec_dig (f : Nat) : ∀ n, n < 10 ^ (f + 1) → Lib.decDigits n = digF (f + 1) n := by
  induction f with
  | zero => intro n h; have h : n < 10 := by simpa using h
            rw [Lib.decDigits]; simp [digF, h]
  | succ f ih =>
    intro n h
    rw [Lib.decDigits, digF]
    split
    · rfl
    · rw [ih (n / 10) (by rw [Nat.pow_succ] at h; omega)]

set_option maxHeartbeats 4000000 in
set_option maxRecDepth 100000 in
theorem ie_22 (T : Nd) (hk : T.kind = 22) (hok : T.eOk = true) : IW 83 T (fun d => (prN T).ex 1) := by
  intro pb own X d b w v hbuf hg hf hr hb
  have hn := T.fine_len hf
  obtain ⟨h0, h18⟩ := ex_ok_22 hk hok
  obtain ⟨m, hm⟩ : ∃ m : Nat, T.num = (m : Int) := ⟨T.num.toNat, by omega⟩
  have hdg : digF 20 T.num.toNat = (⟨(Lib.itoa (m : Int)).toArray⟩ : ByteArray).data.toList := by
    rw [hm]
    show _ = Lib.itoa (m : Int)
    unfold Lib.itoa
    rw [if_neg (by omega)]
    exact (dec_dig 19 _ (by have : (10 : Nat) ^ 20 = 100000000000000000000 := by decide
                            omega)).symm
  rw [ex_text_22 T hk, hdg] at hb ⊢
  obtain ⟨a, cap, rfl, _⟩ := row_eq.1 hr
  have hval : T.val (.slice a T.len cap) = .agg #[.int .i64 22, .int .i64 (m : Int), .string T.name, .slice a T.len cap] := by unfold Nd.val; rw [hk, hm]
  rw [hval]
  have hb0 : Below w.heap.size w (w.alloc (.cells #[.int .i64 22, .int .i64 (m : Int), .string T.name, .slice a T.len cap] 30)) := ((Below.refl w.heap.size w).alloc (Nat.le_refl _) _)
  have HP := hid_mk (IPst.startOn hbuf hb0)
  have HN := hid_mk (fun d' b' Y W (h : IPst pb own (w.alloc (.cells #[.int .i64 22, .int .i64 (m : Int), .string T.name, .slice a T.len cap] 30)) d' b' Y W) => (show W.cell? ⟨w.heap.size, 0, none⟩ = some (.int .i64 22) ∧ W.cell? ⟨w.heap.size, 1, none⟩ = some (.int .i64 (m : Int)) ∧ W.cell? ⟨w.heap.size, 2, none⟩ = some (.string T.name) ∧ W.cell? ⟨w.heap.size, 3, none⟩ = some (.slice a T.len cap) by
    have e := h.kept hbuf w.heap.size (Nat.le_refl _) (by simp)
    rw [e, e, e, e]; refine ⟨?_, ?_, ?_, ?_⟩ <;> simp [go_sem]))
  have HG := hid_mk (gl_on hbuf hb0 hg)
  have HB0 := hid_mk hb0
  have HB := hid_mk hb
  have HV := hid_mk (fun W (hW : Below pb (w.alloc (.cells #[.int .i64 22, .int .i64 (m : Int), .string T.name, .slice a T.len cap] 30)) W) => Tryz.strconv_Itoa (m : Int) (by omega) (by omega) W ((gl_on hbuf hb0 hg) W hW).1)
  clear h0 h18 hm hdg hok hk hb hr hf hbuf hg hval hb0
  generalize (⟨(Lib.itoa (m : Int)).toArray⟩ : ByteArray) = fb at *
  generalize T.name = ts at *
  go_enter Tryz.func83, Tryz.ntmps83
  go_wp2
  go_region_with (first
    | (go_at_call 90; refine (HV.out _ HP.out.drew.below).mono ?_; rintro e w2 ⟨rfl, hx⟩; have hbx := below_grow hx; have hp := HP.out.drew.calm hbx; obtain ⟨b0, b1, b2, b3⟩ := HN.out _ _ _ _ hp; have HP := hid_mk hp; clear hp hbx hx)
    | (go_at_call_of 37 w2; refine (HP.out.putAt [fb] _ 1 _ (by simp) rfl rfl (by decide) (by have := HB.out; simp [txt] at this ⊢; omega)).mono ?_; rintro e w3 ⟨⟨r, rfl⟩, hp⟩; obtain ⟨b0, b1, b2, b3⟩ := HN.out _ _ _ _ hp; have HP := hid_mk hp; clear hp))
  go_wp2
  go_end0
  exact IPst.addsOn HB0.out HP.out (by simp [txt]) _

end Go.Proofs.YtacamenjijlemaaGreatDoor

/- The program's printer: statements of a name. -/
namespace Go.Proofs.YtacamenjijlemaaGreatDoor
open Go.RowKit

set_option maxHeartbeats 4000000 in
set_option maxRecDepth 100000 in
theorem set_of (T : Nd) (s : ByteArray) (h0 : T.len ≠ 0) (ih : IEx (T.kids 0)) (hok : (T.kids 0).eOk = true) (pb : Nat) (own : Option Nat) (X : List UInt8) (d : Nat) (b : Bool) (w : World) (v : Value) (hbuf : IBuf pb w own d b X) (hg : Gl pb w) (hf : T.Fine) (hr : Row 0 pb w T v) (hb : X.length + ((ahead d b).length + (T.name.data.toList ++ (s.data.toList ++ (prN (T.kids 0)).ex 1)).length) ≤ 1099511627776) :
    Calls Tryz.prog 80 #[.pointer (some ⟨pb, 0, none⟩), T.val v, .string s] w (IAdds pb X (ahead d b ++ (T.name.data.toList ++ (s.data.toList ++ (prN (T.kids 0)).ex 1))) d true own w) := by
  have hn := T.fine_len hf
  obtain ⟨g, off, cap, rfl, hgp, hcap, hkid⟩ := kid_at hr (by omega)
  obtain ⟨u0, hc0, hr0⟩ := hkid 0 (by omega)
  simp only [Nat.zero_mul, Nat.add_zero] at hc0
  have hlt0 : 0 < T.len := by omega
  have hval : T.val (.slice (some ⟨g, off, none⟩) T.len cap) = .agg #[.int .i64 T.kind, .int .i64 T.num, .string T.name, .slice (some ⟨g, off, none⟩) T.len cap] := by unfold Nd.val; rfl
  rw [hval]
  have hb0 : Below w.heap.size w (w.alloc (.cells #[.int .i64 T.kind, .int .i64 T.num, .string T.name, .slice (some ⟨g, off, none⟩) T.len cap] 30)) := ((Below.refl w.heap.size w).alloc (Nat.le_refl _) _)
  have HP := hid_mk (IPst.startOn hbuf hb0)
  have HN := hid_mk (fun d' b' Y W (h : IPst pb own (w.alloc (.cells #[.int .i64 T.kind, .int .i64 T.num, .string T.name, .slice (some ⟨g, off, none⟩) T.len cap] 30)) d' b' Y W) => (show W.cell? ⟨w.heap.size, 0, none⟩ = some (.int .i64 T.kind) ∧ W.cell? ⟨w.heap.size, 1, none⟩ = some (.int .i64 T.num) ∧ W.cell? ⟨w.heap.size, 2, none⟩ = some (.string T.name) ∧ W.cell? ⟨w.heap.size, 3, none⟩ = some (.slice (some ⟨g, off, none⟩) T.len cap) by
    have e := h.kept hbuf w.heap.size (Nat.le_refl _) (by simp)
    rw [e, e, e, e]; refine ⟨?_, ?_, ?_, ?_⟩ <;> simp [go_sem]))
  have HG := hid_mk (gl_on hbuf hb0 hg)
  have HB0 := hid_mk hb0
  have HC0 := hid_mk (fun d' b' Y W (h : IPst pb own (w.alloc (.cells #[.int .i64 T.kind, .int .i64 T.num, .string T.name, .slice (some ⟨g, off, none⟩) T.len cap] 30)) d' b' Y W) => hc0 W (h.belowOn hbuf hb0))
  have HR0 := hid_mk (row_on hbuf hb0 hr0)
  have HF0 := hid_mk (Nd.fine_kid hf hlt0)
  have HB := hid_mk hb
  obtain ⟨c00, c01, c02, c03⟩ := HC0.out _ _ _ _ HP.out
  have HI0 := hid_mk ih
  have HE0 := hid_mk hok
  clear ih hok h0 hb hr hf hbuf hg hval hb0 hc0 hr0 hkid hcap
  generalize T.kids 0 = K0 at *
  generalize T.name = ts at *
  generalize T.num = tn at *
  generalize T.kind = tk at *
  go_enter Tryz.func80, Tryz.ntmps80
  go_wp2
  go_region_with (first
    | (go_at_call_of 37 w; refine (HP.out.putD [ts, s] _ 2 _ (by simp) rfl rfl (by decide) (by have := HB.out; simp [txt] at this ⊢; omega)).mono ?_; rintro e w2 ⟨⟨r, rfl⟩, hp⟩; obtain ⟨b0, b1, b2, b3⟩ := HN.out _ _ _ _ hp; obtain ⟨c00, c01, c02, c03⟩ := HC0.out _ _ _ _ hp; have HP := hid_mk hp; clear hp))
  go_wp2_with (first
    | (go_at_call_of 83 u0; refine (HP.out.expr HI0.out u0 HG.out HF0.out HR0.out HE0.out (by have := HB.out; simp [txt] at this ⊢; omega)).mono ?_; rintro e w3 ⟨⟨r, rfl⟩, hp⟩; obtain ⟨b0, b1, b2, b3⟩ := HN.out _ _ _ _ hp; obtain ⟨c00, c01, c02, c03⟩ := HC0.out _ _ _ _ hp; have HP := hid_mk hp; clear hp))
  go_end0
  exact IPst.addsOn HB0.out HP.out (by simp [txt]) _

set_option maxHeartbeats 4000000 in
set_option maxRecDepth 100000 in
theorem step_of (T : Nd) : IW 81 T (fun d => T.name.data.toList ++ (if T.num = 1 then [43, 43] else [45, 45])) := by
  intro pb own X d b w v hbuf hg hf hr hb
  have hn := T.fine_len hf
  obtain ⟨a, cap, rfl, _⟩ := row_eq.1 hr
  have hval : T.val (.slice a T.len cap) = .agg #[.int .i64 T.kind, .int .i64 T.num, .string T.name, .slice a T.len cap] := by unfold Nd.val; rfl
  rw [hval]
  have hb0 : Below w.heap.size w (w.alloc (.cells #[.int .i64 T.kind, .int .i64 T.num, .string T.name, .slice a T.len cap] 30)) := ((Below.refl w.heap.size w).alloc (Nat.le_refl _) _)
  have HP := hid_mk (IPst.startOn hbuf hb0)
  have HN := hid_mk (fun d' b' Y W (h : IPst pb own (w.alloc (.cells #[.int .i64 T.kind, .int .i64 T.num, .string T.name, .slice a T.len cap] 30)) d' b' Y W) => (show W.cell? ⟨w.heap.size, 0, none⟩ = some (.int .i64 T.kind) ∧ W.cell? ⟨w.heap.size, 1, none⟩ = some (.int .i64 T.num) ∧ W.cell? ⟨w.heap.size, 2, none⟩ = some (.string T.name) ∧ W.cell? ⟨w.heap.size, 3, none⟩ = some (.slice a T.len cap) by
    have e := h.kept hbuf w.heap.size (Nat.le_refl _) (by simp)
    rw [e, e, e, e]; refine ⟨?_, ?_, ?_, ?_⟩ <;> simp [go_sem]))
  have HG := hid_mk (gl_on hbuf hb0 hg)
  have HB0 := hid_mk hb0
  have HB := hid_mk hb
  clear hb hr hf hbuf hg hval hb0
  generalize T.name = ts at *
  generalize T.num = tn at *
  generalize T.kind = tk at *
  by_cases h1 : tn = 1
  · subst h1
    rw [if_pos rfl] at HB ⊢
    go_enter Tryz.func81, Tryz.ntmps81
    go_wp2
    go_region_with (first
    | (go_at_call_of 37 w; refine (HP.out.putD [ts, ⟨#[43, 43]⟩] _ 2 _ (by simp) rfl rfl (by decide) (by have := HB.out; simp [txt] at this ⊢; omega)).mono ?_; rintro e w2 ⟨⟨r, rfl⟩, hp⟩; obtain ⟨b0, b1, b2, b3⟩ := HN.out _ _ _ _ hp; have HP := hid_mk hp; clear hp))
    go_wp2
    go_end0
    exact IPst.addsOn HB0.out HP.out (by simp [txt]) _
  · rw [if_neg h1] at HB ⊢
    have hb1 : (tn == 1) = false := beq_eq_false_iff_ne.2 h1
    clear h1
    go_enter Tryz.func81, Tryz.ntmps81
    go_wp2
    go_region_with (first
    | (go_at_call_of 37 w; refine (HP.out.putD [ts, ⟨#[45, 45]⟩] _ 2 _ (by simp) rfl rfl (by decide) (by have := HB.out; simp [txt] at this ⊢; omega)).mono ?_; rintro e w2 ⟨⟨r, rfl⟩, hp⟩; obtain ⟨b0, b1, b2, b3⟩ := HN.out _ _ _ _ hp; have HP := hid_mk hp; clear hp))
    go_wp2
    go_end0
    exact IPst.addsOn HB0.out HP.out (by simp [txt]) _

end Go.Proofs.YtacamenjijlemaaGreatDoor

/- The program's printer: a send; a parameter. -/
namespace Go.Proofs.YtacamenjijlemaaGreatDoor
open Go.RowKit

set_option maxHeartbeats 4000000 in
set_option maxRecDepth 100000 in
theorem send_of (C V : Nd) (ihC : IEx C) (ihV : IEx V) (hC : C.eOk = true) (hV : V.eOk = true) (pb : Nat) (own : Option Nat) (X : List UInt8) (d : Nat) (b : Bool) (w : World) (v1 v2 : Value) (hbuf : IBuf pb w own d b X) (hg : Gl pb w) (hf1 : C.Fine) (hf2 : V.Fine) (hr1 : Row 0 pb w C v1) (hr2 : Row 0 pb w V v2)
    (hb : X.length + ((ahead d b).length + ((prN C).ex 1 ++ ([32, 60, 45, 32] ++ (prN V).ex 1)).length) ≤ 1099511627776) :
    Calls Tryz.prog 82 #[.pointer (some ⟨pb, 0, none⟩), C.val v1, V.val v2] w (IAdds pb X (ahead d b ++ ((prN C).ex 1 ++ ([32, 60, 45, 32] ++ (prN V).ex 1))) d true own w) := by
  obtain ⟨a1, c1, rfl, _⟩ := row_eq.1 hr1
  obtain ⟨a2, c2, rfl, _⟩ := row_eq.1 hr2
  have hb0 : Below w.heap.size w ((w.alloc (.cells #[.int .i64 C.kind, .int .i64 C.num, .string C.name, .slice a1 C.len c1] 30)).alloc (.cells #[.int .i64 V.kind, .int .i64 V.num, .string V.name, .slice a2 V.len c2] 30)) := ((Below.refl w.heap.size w).alloc (Nat.le_refl _) _).alloc (by simp) _
  have HP := hid_mk (IPst.startOn hbuf hb0)
  have HX : Hid (∀ d' b' Y W, IPst pb own ((w.alloc (.cells #[.int .i64 C.kind, .int .i64 C.num, .string C.name, .slice a1 C.len c1] 30)).alloc (.cells #[.int .i64 V.kind, .int .i64 V.num, .string V.name, .slice a2 V.len c2] 30)) d' b' Y W → W.cell? ⟨w.heap.size + 1, 0, none⟩ = some (.int .i64 V.kind) ∧ W.cell? ⟨w.heap.size + 1, 1, none⟩ = some (.int .i64 V.num) ∧ W.cell? ⟨w.heap.size + 1, 2, none⟩ = some (.string V.name) ∧ W.cell? ⟨w.heap.size + 1, 3, none⟩ = some (.slice a2 V.len c2)) := by
    intro d' b' Y W h
    have e := h.kept hbuf (w.heap.size + 1) (by omega) (by simp)
    rw [e, e, e, e]; refine ⟨?_, ?_, ?_, ?_⟩ <;> simp [go_sem]
  have HG := hid_mk (gl_on hbuf hb0 hg)
  have HR1 := hid_mk (row_on hbuf hb0 hr1)
  have HR2 := hid_mk (row_on hbuf hb0 hr2)
  have HI1 := hid_mk ihC
  have HI2 := hid_mk ihV
  have HE1 := hid_mk hC
  have HE2 := hid_mk hV
  have HF1 := hid_mk hf1
  have HF2 := hid_mk hf2
  have HB := hid_mk hb
  have HB0 := hid_mk hb0
  clear hb hb0 hbuf hg hf1 hf2 hr1 hr2 ihC ihV hC hV
  unfold Nd.val
  go_enter Tryz.func82, Tryz.ntmps82
  go_wp2_with (first
    | (go_at_call_of 83 a1; refine (HP.out.expr HI1.out _ HG.out HF1.out HR1.out HE1.out (by have := HB.out; simp at this ⊢; omega)).mono ?_; rintro e w2 ⟨⟨r, rfl⟩, hp⟩; obtain ⟨x0, x1, x2, x3⟩ := HX.out _ _ _ _ hp; have HP := hid_mk hp; clear hp)
    | (go_at_call_of 37 w2; refine (HP.out.putAt [⟨#[32, 60, 45, 32]⟩] _ 1 _ (by simp) rfl rfl (by decide) (by have := HB.out; simp [txt] at this ⊢; omega)).mono ?_; rintro e w3 ⟨⟨r, rfl⟩, hp⟩; obtain ⟨x0, x1, x2, x3⟩ := HX.out _ _ _ _ hp; have HP := hid_mk hp; clear hp)
    | (go_at_call_of 83 a2; refine (HP.out.expr HI2.out _ HG.out HF2.out HR2.out HE2.out (by have := HB.out; simp [txt] at this ⊢; omega)).mono ?_; rintro e w4 ⟨⟨r, rfl⟩, hp⟩; have HP := hid_mk hp; clear hp))
  go_end0
  exact IPst.addsOn HB0.out HP.out (by simp [txt]) _
theorem IPst.send {C V : Nd} (ihC : IEx C) (ihV : IEx V) (hC : C.eOk = true) (hV : V.eOk = true) {pb : Nat} {own0 : Option Nat} {w0 w : World} {d : Nat} {b : Bool} {Y : List UInt8} (h : IPst pb own0 w0 d b Y w) (v1 v2 : Value) (hg : Gl pb w0) (hf1 : C.Fine) (hf2 : V.Fine) (hr1 : Row 0 pb w0 C v1) (hr2 : Row 0 pb w0 V v2) (hb : Y.length + ((ahead d b).length + ((prN C).ex 1 ++ ([32, 60, 45, 32] ++ (prN V).ex 1)).length) ≤ 1099511627776) :
    Calls Tryz.prog 82 #[.pointer (some ⟨pb, 0, none⟩), C.val v1, V.val v2] w fun e w' => (∃ r, e = .returned r) ∧ IPst pb own0 w0 d true (Y ++ (ahead d b ++ ((prN C).ex 1 ++ ([32, 60, 45, 32] ++ (prN V).ex 1)))) w' :=
  h.lift fun own hbuf => send_of C V ihC ihV hC hV pb own Y d b w v1 v2 hbuf (hg.keep h.below) hf1 hf2 (row_below h.below (Nat.le_refl _) hr1) (row_below h.below (Nat.le_refl _) hr2) hb
end Go.Proofs.YtacamenjijlemaaGreatDoor

/- The program's printer: lists of statements, blocks. -/
namespace Go.Proofs.YtacamenjijlemaaGreatDoor
open Go.RowKit

/-- Kids as statements, each on lines of its own. -/
def ISts (T : Nd) : Prop := ∀ (pb : Nat) (own : Option Nat) (X : List UInt8) (d : Nat) (w : World) (v : Value), IBuf pb w own d false X → Gl pb w → T.Fine → Row 0 pb w T v → d ≤ 1099511627776 →
  X.length + ((prN T).sts (d + 1)).length ≤ 1099511627776 → Calls Tryz.prog 54 #[.pointer (some ⟨pb, 0, none⟩), T.val v] w (IAdds pb X ((prN T).sts (d + 1)) d false own w)
theorem IPst.sts {T : Nd} (hT : ISts T) {pb : Nat} {own0 : Option Nat} {w0 w : World} {d : Nat} {Y : List UInt8} (h : IPst pb own0 w0 d false Y w) (v : Value) (hg : Gl pb w0) (hf : T.Fine) (hr : Row 0 pb w0 T v) (hd : d ≤ 1099511627776) (hb : Y.length + ((prN T).sts (d + 1)).length ≤ 1099511627776) :
    Calls Tryz.prog 54 #[.pointer (some ⟨pb, 0, none⟩), T.val v] w fun e w' => (∃ r, e = .returned r) ∧ IPst pb own0 w0 d false (Y ++ (prN T).sts (d + 1)) w' :=
  h.lift fun own hbuf => hT pb own Y d w v hbuf (hg.keep h.below) hf (row_below h.below (Nat.le_refl _) hr) hd hb
theorem ahead_false (d : Nat) : ahead d false = tabsT d := rfl

set_option maxHeartbeats 4000000 in
set_option maxRecDepth 100000 in
theorem sts_of (T : Nd) (hW : ∀ i, i < T.len → IW 71 (T.kids i) (fun d => (prN (T.kids i)).st d)) : ISts T := by
  intro pb own X d w v hbuf hg hf hr hd hb
  have hnn := T.fine_len hf
  obtain ⟨a, cap, rfl, _⟩ := row_eq.1 hr
  rw [prN_sts] at hb ⊢
  unfold Nd.val
  have HP := hid_mk (IPst.startB hbuf (.cells #[.int .i64 T.kind, .int .i64 T.num, .string T.name, .slice a T.len cap] 30))
  have HR := hid_mk (row_allocI hbuf hr (.cells #[.int .i64 T.kind, .int .i64 T.num, .string T.name, .slice a T.len cap] 30))
  have HG := hid_mk (hg.alloc hbuf.lt (.cells #[.int .i64 T.kind, .int .i64 T.num, .string T.name, .slice a T.len cap] 30))
  have hp := HP.out
  obtain ⟨k2, k3, f2, f3⟩ := hp.cells
  have HM : Hid (∀ d' b' Y W, IPst pb own (w.alloc (.cells #[.int .i64 T.kind, .int .i64 T.num, .string T.name, .slice a T.len cap] 30)) d' b' Y W → W.cell? ⟨w.heap.size, 3, none⟩ = some (.slice a T.len cap)) := fun d' b' Y W h => (IPst.node hbuf (.int .i64 T.kind) (.int .i64 T.num) (.string T.name) (.slice a T.len cap) 30 d' b' Y W h).2.2.2
  have b3 := HM.out _ _ _ _ (hp.deep (d + 1))
  have HPD : Hid (IPst pb own (w.alloc (.cells #[.int .i64 T.kind, .int .i64 T.num, .string T.name, .slice a T.len cap] 30)) ((d + 1 : Nat) : Int) false X ((w.alloc (.cells #[.int .i64 T.kind, .int .i64 T.num, .string T.name, .slice a T.len cap] 30)).setCell ⟨pb, 2, none⟩ (.int .i64 ((d : Int) + 1)))) := by
    have e : ((d + 1 : Nat) : Int) = (d : Int) + 1 := by omega
    rw [e]; exact hp.deep _
  have HB := hid_mk hb
  have HW := hid_mk hW
  have HF := hid_mk hf
  have HL := hid_mk hbuf.lt
  clear hb hbuf hr hW hg hf hp
  generalize hF : (fun i => tabsT (d + 1) ++ ((prN (T.kids i)).st (d + 1) ++ [10])) = F at *
  have HFE := hid_mk hF
  have HFL := hid_mk (fun i (h : i < T.len) => catTo_at F h)
  clear hF
  generalize T.name = ts at *
  generalize T.num = tn at *
  generalize T.kind = tk at *
  go_enter Tryz.func54, Tryz.ntmps54
  go_wp2
  go_loopw [18] (fun i wr => ∃ j : Nat, j ≤ T.len ∧ i = .int .i64 j ∧ Hid (IPst pb own (w.alloc (.cells #[.int .i64 tk, .int .i64 tn, .string ts, .slice a T.len cap] 30)) ((d + 1 : Nat) : Int) false (X ++ catTo F j) wr)) (fun i _ => T.len - (intOf i).toNat)
  case atStart => exact ⟨0, by omega, rfl, hid_mk (by simpa [catTo] using HPD.out)⟩
  case round =>
    obtain ⟨j, hj, rfl, HP⟩ := hrel
    by_cases hlt : j < T.len
    · obtain ⟨g, off, cap', hv, hgp, hcap, hk⟩ := kid_at HR.out (by omega)
      obtain rfl : a = some ⟨g, off, none⟩ := by injection hv
      obtain ⟨u, hc, hru⟩ := hk j (by omega)
      obtain ⟨c0, c1, c2, c3⟩ := hc _ HP.out.below
      obtain ⟨au, lu, cu, rfl⟩ : ∃ a l c, u = .slice a l c := by obtain ⟨a, c, h, _⟩ := row_eq.1 hru; exact ⟨a, _, c, h⟩
      obtain ⟨own1, hbf, hjoin⟩ := HP.out.join
      have hcl := HFL.out j hlt
      have HWJ := hid_mk (HW.out j hlt)
      have HFJ := hid_mk (Nd.fine_kid HF.out (show j < T.len by omega))
      have HFJE : Hid (F j = tabsT (d + 1) ++ ((prN (T.kids j)).st (d + 1) ++ [10])) := by rw [← HFE.out]; rfl
      have HX : Hid (catTo F (j + 1) = catTo F j ++ (tabsT (d + 1) ++ ((prN (T.kids j)).st (d + 1) ++ [10]))) := by unfold Hid; rw [← HFJE.out]; rfl
      have HRJ := hid_mk (row_allocI hbf (row_below HP.out.below (Nat.le_refl _) hru) (.cells #[.int .i64 (T.kids j).kind, .int .i64 (T.kids j).num, .string (T.kids j).name, .slice au lu cu] 30))
      have HGJ := hid_mk ((HG.out.keep HP.out.below).alloc hbf.lt (.cells #[.int .i64 (T.kids j).kind, .int .i64 (T.kids j).num, .string (T.kids j).name, .slice au lu cu] 30))
      have HPF := hid_mk (IPst.startB hbf (.cells #[.int .i64 (T.kids j).kind, .int .i64 (T.kids j).num, .string (T.kids j).name, .slice au lu cu] 30))
      have HJ := hid_mk (fun Y W (h : IPst pb own1 (wr.alloc (.cells #[.int .i64 (T.kids j).kind, .int .i64 (T.kids j).num, .string (T.kids j).name, .slice au lu cu] 30)) ((d + 1 : Nat) : Int) false Y W) => hjoin _ _ Y W _ h)
      rw [HFJE.out, List.length_append, List.length_append] at hcl
      clear HP hk hc hru hv hcap hbf hjoin HFJE
      have HP := HPF
      clear HPF
      generalize T.kids j = K at *
      go_wp2_with (first
        | (go_at_call 71; refine (HP.out.fn HWJ.out _ HGJ.out HFJ.out HRJ.out (by have := HB.out; simp at hcl; simp [ahead_false] at this ⊢; omega)).mono ?_; rintro e w2 ⟨⟨r, rfl⟩, hp⟩; have HP := hid_mk hp; clear hp)
        | (go_at_call 25; refine (HP.out.endl (by have := HB.out; simp at hcl; simp [ahead_false] at this ⊢; omega)).mono ?_; rintro e w2 ⟨⟨r, rfl⟩, hp⟩; have HP := hid_mk hp; clear hp))
      exact ⟨⟨j + 1, by omega, by go_num, hid_mk (HJ.out _ _ (by rw [HX.out]; simpa [ahead_false] using HP.out))⟩, by simp [intOf]; omega⟩
    · obtain rfl : j = T.len := by omega
      obtain ⟨k2, k3, f2, f3⟩ := HP.out.cells
      have HPE := hid_mk (HP.out.deep (d : Int))
      clear HP
      go_wp2
      go_end0
      exact HPE.out.addsB rfl _

set_option maxHeartbeats 4000000 in
set_option maxRecDepth 100000 in
theorem blk_of (T : Nd) (ih : ISts T) : IW 40 T (fun d => blockT d ((prN T).sts (d + 1))) := by
  intro pb own X d b w v hbuf hg hf hr hb
  have hnn := T.fine_len hf
  have hd : d ≤ 1099511627776 := by have := hb; simp [blockT, tabsT] at this; omega
  obtain ⟨a, cap, rfl, _⟩ := row_eq.1 hr
  have HP := hid_mk (IPst.startB hbuf (.cells #[.int .i64 T.kind, .int .i64 T.num, .string T.name, .slice a T.len cap] 30))
  have HN := hid_mk (IPst.node hbuf (.int .i64 T.kind) (.int .i64 T.num) (.string T.name) (.slice a T.len cap) 30)
  have HR := hid_mk (row_allocI hbuf hr (.cells #[.int .i64 T.kind, .int .i64 T.num, .string T.name, .slice a T.len cap] 30))
  have HG := hid_mk (hg.alloc hbuf.lt (.cells #[.int .i64 T.kind, .int .i64 T.num, .string T.name, .slice a T.len cap] 30))
  have HB := hid_mk hb
  have HI := hid_mk ih
  have HF := hid_mk hf
  clear hb hbuf hr hg hf ih
  unfold Nd.val
  go_enter Tryz.func40, Tryz.ntmps40
  go_wp2_with (first
    | (go_at_call_of 37 w; refine (HP.out.putAt [⟨#[123]⟩] _ 1 _ (by simp) rfl rfl (by decide) (by have := HB.out; simp [txt, blockT] at this ⊢; omega)).mono ?_; rintro e w2 ⟨⟨r, rfl⟩, hp⟩; obtain ⟨b0, b1, b2, b3⟩ := HN.out _ _ _ _ hp; have HP := hid_mk hp; clear hp)
    | (go_at_call 25; refine (HP.out.endl (by have := HB.out; simp [txt, blockT] at this ⊢; omega)).mono ?_; rintro e w3 ⟨⟨r, rfl⟩, hp⟩; obtain ⟨b0, b1, b2, b3⟩ := HN.out _ _ _ _ hp; have HP := hid_mk hp; clear hp)
    | (go_at_call 54; refine (HP.out.sts HI.out _ HG.out HF.out HR.out hd (by have := HB.out; simp [txt, blockT] at this ⊢; omega)).mono ?_; rintro e w4 ⟨⟨r, rfl⟩, hp⟩; have HP := hid_mk hp; clear hp)
    | (go_at_call_of 37 w4; refine (HP.out.putAt [⟨#[125]⟩] _ 1 _ (by simp) rfl rfl (by decide) (by have := HB.out; simp [txt, blockT, ahead_false] at this ⊢; omega)).mono ?_; rintro e w5 ⟨⟨r, rfl⟩, hp⟩; have HP := hid_mk hp; clear hp))
  go_end0
  exact HP.out.addsB (by simp [txt, blockT, ahead_false]) _
end Go.Proofs.YtacamenjijlemaaGreatDoor
