/- The program's printer: a sign of one side. -/
import Derived.Test.YtacamenjijlemaaGreatDoorPmPiA
import Derived.Deep.RegionHeld3
import Derived.StillTailTactics
import Derived.WalkSpells
import Derived.WalkSmall
set_option linter.unusedVariables false
namespace Go.Proofs.YtacamenjijlemaaGreatDoor
open Go.RowKit
theorem un_text {T : Nd} (hk : T.kind = 27) (hE : (T.kids 0).eOk = true) : (prN T).ex 1 = T.name.data.toList ++ parT (((T.kids 0).kind == 28) || ((T.name.toList == [45]) && (((T.kids 0).kind == 27) && ((T.kids 0).name.toList == [45])))) ((prN (T.kids 0)).ex 1) := by
  rw [ex_text_27 T hk]
  congr 1
  by_cases hc : T.name.data.toList = [45] ∧ (T.kids 0).kind = 27 ∧ (T.kids 0).name.data.toList = [45]
  · rw [if_pos hc]
    obtain ⟨h1, h2, h3⟩ := hc
    have e : (((T.kids 0).kind == 28) || ((T.name.toList == [45]) && (((T.kids 0).kind == 27) && ((T.kids 0).name.toList == [45])))) = true := by
      rw [ByteArray.toList_eq, ByteArray.toList_eq, h1, h2, h3]; rfl
    rw [e]; rfl
  · rw [if_neg hc, ← six_level hE]
    congr 1
    rw [ByteArray.toList_eq, ByteArray.toList_eq]
    rw [Bool.eq_iff_iff]
    simp only [Bool.or_eq_true, Bool.and_eq_true, beq_iff_eq]
    constructor
    · exact fun h => .inl h
    · rintro (h | h)
      · exact h
      · exact absurd h hc

set_option maxHeartbeats 4000000 in
set_option maxRecDepth 100000 in
theorem un_of (T : Nd) (hk : T.kind = 27) (ih : ∀ i, i < T.len → IEx (T.kids i)) (hok : T.eOk = true) : IW 93 T (fun d => (prN T).ex 1) := by
  intro pb own X d b w v hbuf hg hf hr hb
  have hn := T.fine_len hf
  obtain ⟨hlen, hE0⟩ := ex_ok_27 hk hok
  rw [un_text hk hE0] at hb ⊢
  obtain ⟨g, off, cap, rfl, hgp, hcap, hkid⟩ := kid_at hr (by omega)
  obtain ⟨u0, hc0, hr0⟩ := hkid 0 (by omega)
  simp only [Nat.zero_mul, Nat.add_zero] at hc0
  have hlt0 : 0 < T.len := by omega
  have hval : T.val (.slice (some ⟨g, off, none⟩) T.len cap) = .agg #[.int .i64 27, .int .i64 T.num, .string T.name, .slice (some ⟨g, off, none⟩) T.len cap] := by unfold Nd.val; rw [hk]
  rw [hval]
  obtain ⟨a0, l0, c0, hu0⟩ : ∃ a l c, u0 = .slice a l c := by obtain ⟨a, c, h, _⟩ := row_eq.1 hr0; exact ⟨a, _, c, h⟩
  subst hu0
  have hb0 : Below w.heap.size w ((w.alloc (.cells #[.int .i64 27, .int .i64 T.num, .string T.name, .slice (some ⟨g, off, none⟩) T.len cap] 30)).alloc (.cells #[.int .i64 (T.kids 0).kind, .int .i64 (T.kids 0).num, .string (T.kids 0).name, .slice a0 l0 c0] 30)) := (((Below.refl w.heap.size w).alloc (Nat.le_refl _) _).alloc (by simp) _)
  have HP := hid_mk (IPst.startOn hbuf hb0)
  have HN := hid_mk (fun d' b' Y W (h : IPst pb own ((w.alloc (.cells #[.int .i64 27, .int .i64 T.num, .string T.name, .slice (some ⟨g, off, none⟩) T.len cap] 30)).alloc (.cells #[.int .i64 (T.kids 0).kind, .int .i64 (T.kids 0).num, .string (T.kids 0).name, .slice a0 l0 c0] 30)) d' b' Y W) => (show W.cell? ⟨w.heap.size, 0, none⟩ = some (.int .i64 27) ∧ W.cell? ⟨w.heap.size, 1, none⟩ = some (.int .i64 T.num) ∧ W.cell? ⟨w.heap.size, 2, none⟩ = some (.string T.name) ∧ W.cell? ⟨w.heap.size, 3, none⟩ = some (.slice (some ⟨g, off, none⟩) T.len cap) by
    have e := h.kept hbuf w.heap.size (Nat.le_refl _) (by simp; omega)
    rw [e, e, e, e]; refine ⟨?_, ?_, ?_, ?_⟩ <;> simp [go_sem]))
  have HG := hid_mk (gl_on hbuf hb0 hg)
  have HB0 := hid_mk hb0
  have HX0 := hid_mk (fun d' b' Y W (h : IPst pb own ((w.alloc (.cells #[.int .i64 27, .int .i64 T.num, .string T.name, .slice (some ⟨g, off, none⟩) T.len cap] 30)).alloc (.cells #[.int .i64 (T.kids 0).kind, .int .i64 (T.kids 0).num, .string (T.kids 0).name, .slice a0 l0 c0] 30)) d' b' Y W) => (show W.cell? ⟨w.heap.size + 1, 0, none⟩ = some (.int .i64 (T.kids 0).kind) ∧ W.cell? ⟨w.heap.size + 1, 1, none⟩ = some (.int .i64 (T.kids 0).num) ∧ W.cell? ⟨w.heap.size + 1, 2, none⟩ = some (.string (T.kids 0).name) ∧ W.cell? ⟨w.heap.size + 1, 3, none⟩ = some (.slice a0 l0 c0) by
    have e := h.kept hbuf (w.heap.size + 1) (by omega) (by simp)
    rw [e, e, e, e]; refine ⟨?_, ?_, ?_, ?_⟩ <;> simp [go_sem]))
  have HC0 := hid_mk (fun d' b' Y W (h : IPst pb own ((w.alloc (.cells #[.int .i64 27, .int .i64 T.num, .string T.name, .slice (some ⟨g, off, none⟩) T.len cap] 30)).alloc (.cells #[.int .i64 (T.kids 0).kind, .int .i64 (T.kids 0).num, .string (T.kids 0).name, .slice a0 l0 c0] 30)) d' b' Y W) => hc0 W (h.belowOn hbuf hb0))
  have HR0 := hid_mk (row_on hbuf hb0 hr0)
  have HF0 := hid_mk (Nd.fine_kid hf hlt0)
  have HB := hid_mk hb
  obtain ⟨c00, c01, c02, c03⟩ := HC0.out _ _ _ _ HP.out
  obtain ⟨e00, e01, e02, e03⟩ := hc0 (w.alloc (.cells #[.int .i64 27, .int .i64 T.num, .string T.name, .slice (some ⟨g, off, none⟩) T.len cap] 30)) ((Below.refl pb w).alloc (by have := hbuf.lt; omega) _)
  have HI0 := hid_mk (ih 0 hlt0)
  have HE0 := hid_mk hE0
  clear ih hE0 hok hk hlen hb hr hf hbuf hg hval hb0 hc0 hr0 hkid hcap
  generalize T.kids 0 = K0 at *
  have HM := hid_mk (fun W : World => minus_any K0 W a0 l0 c0)
  have HMT : Hid (∀ W : World, Calls Tryz.prog 100 #[.agg #[.int .i64 27, .int .i64 T.num, .string T.name, .slice (some ⟨g, off, none⟩) T.len cap]] W fun e w' => e = .returned (.bool (T.name.toList == [45])) ∧ Below W.heap.size W w') := by
    intro W
    have := minus_any (.mk 27 T.num T.name T.len T.kids) W (some ⟨g, off, none⟩) T.len cap
    simpa [Nd.val, Nd.kind, Nd.num, Nd.name] using this
  unfold Nd.val at HM
  generalize T.name = ts at *
  generalize T.num = tn at *
  cases h1 : (K0.kind == 28)
  all_goals cases h2 : (ts.toList == [45])
  all_goals rw [h1, h2] at HB
  all_goals rw [h2] at HMT
  all_goals go_enter Tryz.func93, Tryz.ntmps93
  all_goals go_wp2
  all_goals go_region_with (go_at_call_of 37 w; refine (HP.out.putD [ts] _ 1 _ (by simp) rfl rfl (by decide) (by have := HB.out; simp [txt] at this ⊢; omega)).mono ?_; rintro e w2 ⟨⟨r, rfl⟩, hp⟩; obtain ⟨b0, b1, b2, b3⟩ := HN.out _ _ _ _ hp; obtain ⟨c00, c01, c02, c03⟩ := HC0.out _ _ _ _ hp; obtain ⟨x0, x1, x2, x3⟩ := HX0.out _ _ _ _ hp; have HP := hid_mk hp; clear hp)
  all_goals go_wp2
  · simp only [Bool.false_or, Bool.false_and] at HB ⊢
    go_region_with (first
      | (go_at_call_of 100 tn; refine (HMT.out _).mono ?_; rintro e w3 ⟨rfl, hbm⟩; have hp := HP.out.drew.calm hbm; obtain ⟨b0, b1, b2, b3⟩ := HN.out _ _ _ _ hp; obtain ⟨c00, c01, c02, c03⟩ := HC0.out _ _ _ _ hp; obtain ⟨x0, x1, x2, x3⟩ := HX0.out _ _ _ _ hp; have HP := hid_mk hp; clear hp hbm)
      | (go_at_call 99; refine (HP.out.group HI0.out false _ HG.out HF0.out HR0.out HE0.out (by have := HB.out; simp [txt] at this ⊢; omega)).mono ?_; rintro e w5 ⟨⟨r, rfl⟩, hp⟩; obtain ⟨b0, b1, b2, b3⟩ := HN.out _ _ _ _ hp; obtain ⟨c00, c01, c02, c03⟩ := HC0.out _ _ _ _ hp; obtain ⟨x0, x1, x2, x3⟩ := HX0.out _ _ _ _ hp; have HP := hid_mk hp; clear hp))
    all_goals go_wp2
    all_goals go_end0
    all_goals exact IPst.addsOn HB0.out HP.out (by simp [txt]) _
  · simp only [Bool.false_or, Bool.true_and] at HB ⊢
    generalize ((K0.kind == 27) && (K0.name.toList == [45])) = par at *
    go_region_held3 (fun W => W.cell? ⟨w.heap.size, 0, none⟩ = some (.int .i64 27) ∧ W.cell? ⟨w.heap.size, 1, none⟩ = some (.int .i64 tn) ∧ W.cell? ⟨w.heap.size, 2, none⟩ = some (.string ts) ∧ W.cell? ⟨w.heap.size, 3, none⟩ = some (.slice (some ⟨g, off, none⟩) T.len cap) ∧ W.cell? ⟨w.heap.size + 1, 0, none⟩ = some (.int .i64 K0.kind) ∧ W.cell? ⟨w.heap.size + 1, 1, none⟩ = some (.int .i64 K0.num) ∧ W.cell? ⟨w.heap.size + 1, 2, none⟩ = some (.string K0.name) ∧ W.cell? ⟨w.heap.size + 1, 3, none⟩ = some (.slice a0 l0 c0)) (go_keep) (first
      | (go_at_call_of 100 tn; refine (HMT.out _).mono ?_; rintro e w3 ⟨rfl, hbm⟩; have hp := HP.out.drew.calm hbm; obtain ⟨b0, b1, b2, b3⟩ := HN.out _ _ _ _ hp; obtain ⟨c00, c01, c02, c03⟩ := HC0.out _ _ _ _ hp; obtain ⟨x0, x1, x2, x3⟩ := HX0.out _ _ _ _ hp; have HP := hid_mk hp; clear hp hbm)
      | (go_at_call_of 100 K0; refine (HM.out _).mono ?_; rintro e w4 ⟨rfl, hbm⟩; have hp := HP.out.calm hbm; obtain ⟨b0, b1, b2, b3⟩ := HN.out _ _ _ _ hp; obtain ⟨c00, c01, c02, c03⟩ := HC0.out _ _ _ _ hp; obtain ⟨x0, x1, x2, x3⟩ := HX0.out _ _ _ _ hp; have HP := hid_mk hp; clear hp hbm)
      | (go_at_call 99; refine (HP.out.group HI0.out par _ HG.out HF0.out HR0.out HE0.out (by have := HB.out; simp [txt] at this ⊢; omega)).mono ?_; rintro e w5 ⟨⟨r, rfl⟩, hp⟩; obtain ⟨b0, b1, b2, b3⟩ := HN.out _ _ _ _ hp; obtain ⟨c00, c01, c02, c03⟩ := HC0.out _ _ _ _ hp; obtain ⟨x0, x1, x2, x3⟩ := HX0.out _ _ _ _ hp; have HP := hid_mk hp; clear hp))
    all_goals go_wp2
    all_goals go_end0
    all_goals exact IPst.addsOn HB0.out HP.out (by simp [txt]) _
  · simp only [Bool.true_or] at HB ⊢
    have hund : undef = Value.tuple #[] := rfl
    first
      | go_region_with (first | (go_at_call 99; refine (HP.out.drew.group HI0.out true _ HG.out HF0.out HR0.out HE0.out (by have := HB.out; simp [txt] at this ⊢; omega)).mono ?_; rintro e w5 ⟨⟨r, rfl⟩, hp⟩; obtain ⟨b0, b1, b2, b3⟩ := HN.out _ _ _ _ hp; obtain ⟨c00, c01, c02, c03⟩ := HC0.out _ _ _ _ hp; obtain ⟨x0, x1, x2, x3⟩ := HX0.out _ _ _ _ hp; have HP := hid_mk hp; clear hp))
      | fail
    all_goals go_wp2
    all_goals go_end0
    all_goals exact IPst.addsOn HB0.out HP.out (by simp [txt]) _
  · simp only [Bool.true_or] at HB ⊢
    have hund : undef = Value.tuple #[] := rfl
    first
      | go_region_with (first | (go_at_call 99; refine (HP.out.drew.group HI0.out true _ HG.out HF0.out HR0.out HE0.out (by have := HB.out; simp [txt] at this ⊢; omega)).mono ?_; rintro e w5 ⟨⟨r, rfl⟩, hp⟩; obtain ⟨b0, b1, b2, b3⟩ := HN.out _ _ _ _ hp; obtain ⟨c00, c01, c02, c03⟩ := HC0.out _ _ _ _ hp; obtain ⟨x0, x1, x2, x3⟩ := HX0.out _ _ _ _ hp; have HP := hid_mk hp; clear hp))
      | fail
    all_goals go_wp2
    all_goals go_end0
    all_goals exact IPst.addsOn HB0.out HP.out (by simp [txt]) _

end Go.Proofs.YtacamenjijlemaaGreatDoor
