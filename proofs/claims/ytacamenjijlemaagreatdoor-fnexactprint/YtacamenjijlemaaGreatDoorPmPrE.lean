/- The specification's printer: statements: blocks within, the head of a case. -/
import Derived.Test.YtacamenjijlemaaGreatDoorPmPrA
import Derived.Test.YtacamenjijlemaaGreatDoorPmPrC
import Derived.WalkSpells
import Derived.WalkSmall
import Derived.Test.YtacamenjijlemaaGreatDoorPmPrD
import Derived.StillTailTactics
set_option linter.unusedVariables false
namespace Go.Proofs.YtacamenjijlemaaGreatDoor
open Go.RowKit
theorem st_text_4 (T : Nd) (hk : T.kind = 4) (d : Nat) : (prN T).st d = blockT d ((prN T).sts (d + 1)) := by
  cases T with
  | nil => simp [Nd.kind] at hk
  | mk k n s len kids => obtain rfl : k = 4 := hk; rfl
theorem st_text_10 (T : Nd) (hk : T.kind = 10) (d : Nat) : (prN T).st d = [105, 102, 32] ++ ((prN (T.kids 0)).ex 1 ++ (32 :: (blockT d ((prN (T.kids 1)).sts (d + 1)) ++ (if T.len = 3 then [32, 101, 108, 115, 101, 32] ++ (prN (T.kids 2)).st d else [])))) := by
  cases T with
  | nil => simp [Nd.kind] at hk
  | mk k n s len kids => obtain rfl : k = 10 := hk; rfl
theorem st_text_11 (T : Nd) (hk : T.kind = 11) (d : Nat) : (prN T).st d = [102, 111, 114, 32] ++ ((if T.len = 2 then (prN (T.kids 0)).ex 1 ++ [32] else []) ++ blockT d ((prN (T.kids (T.len - 1))).sts (d + 1))) := by
  cases T with
  | nil => simp [Nd.kind] at hk
  | mk k n s len kids => obtain rfl : k = 11 := hk; rfl
theorem st_text_15 (T : Nd) (hk : T.kind = 15) (d : Nat) : (prN T).st d = [115, 101, 108, 101, 99, 116, 32, 123, 10] ++ (catTo (fun i => (prN (T.kids i)).cs d) T.len ++ (tabsT d ++ [125])) := by
  cases T with
  | nil => simp [Nd.kind] at hk
  | mk k n s len kids => obtain rfl : k = 15 := hk; rfl

def BrC (T : Nd) : Prop := ∀ (ob : Nat) (own : Option Nat) (X : List UInt8) (d : Nat) (w : World) (v : Value), Buf ob w own X → T.Fine → Row 0 ob w T v → T.sOk = true →
  X.length + ((prN T).st d).length ≤ 1099511627776 → Calls Tryz.prog 60 #[.pointer (some ⟨ob, 0, none⟩), T.val v, .int .i64 d] w (Adds ob X ((prN T).st d) own w)
theorem Pst.branch {T : Nd} (hT : BrC T) {ob : Nat} {own0 : Option Nat} {w0 w : World} {Y : List UInt8} (h : Pst ob own0 w0 Y w) (d : Nat) (v : Value) (hf : T.Fine) (hr : Row 0 ob w0 T v) (hok : T.sOk = true) (hb : Y.length + ((prN T).st d).length ≤ 1099511627776) :
    Calls Tryz.prog 60 #[.pointer (some ⟨ob, 0, none⟩), T.val v, .int .i64 d] w fun e w' => e = .returned (.tuple #[]) ∧ Pst ob own0 w0 (Y ++ (prN T).st d) w' :=
  h.lift fun own hbuf => hT ob own Y d w v hbuf hf (row_below h.below (Nat.le_refl _) hr) hok hb
structure PrC (T : Nd) : Prop where
  sm : SmC T
  sts : StsC T
  br : T.kind = 10 → BrC T
  gr : ∀ i, i < T.len → StsC (T.kids i)
theorem sorts_at {e st : Nat → Bool} {kk : Nat → Int} {len : Nat} {s : ByteArray} (h : sortsB e st kk len s = true) : len = s.size ∧ ∀ i, i < s.size → sortB e st kk (s.data.toList.getD i 0).toNat i = true := by
  unfold sortsB at h
  simp only [Bool.and_eq_true, decide_eq_true_eq] at h
  exact ⟨h.1, allTo_iff.1 h.2⟩
theorem st_ok_4 {T : Nd} (hk : T.kind = 4) (h : T.sOk = true) : ∀ i, i < T.len → (T.kids i).sOk = true := by
  rw [sOk_eq, hk] at h
  simp [stmtB] at h
  exact allTo_iff.1 h.2
theorem blk_sort {e st : Nat → Bool} {kk : Nat → Int} {i : Nat} (h : sortB e st kk 98 i = true) : kk i = 4 ∧ st i = true := by
  simp [sortB] at h; exact h
theorem els_sort {e st : Nat → Bool} {kk : Nat → Int} {i : Nat} (h : sortB e st kk 105 i = true) : (kk i = 4 ∨ kk i = 10) ∧ st i = true := by
  simp [sortB] at h; exact h
theorem exp_sort {e st : Nat → Bool} {kk : Nat → Int} {i : Nat} (h : sortB e st kk 101 i = true) : e i = true := by
  simpa [sortB] using h
theorem st_ok_10 {T : Nd} (hk : T.kind = 10) (h : T.sOk = true) : (T.len = 2 ∨ T.len = 3) ∧ (T.kids 0).eOk = true ∧ ((T.kids 1).kind = 4 ∧ (T.kids 1).sOk = true) ∧ (T.len = 3 → ((T.kids 2).kind = 4 ∨ (T.kids 2).kind = 10) ∧ (T.kids 2).sOk = true) := by
  rw [sOk_eq, hk] at h
  simp only [stmtB, Int.reduceEq, if_true, if_false, or_self, Bool.and_eq_true, Bool.or_eq_true] at h
  rcases h.2 with h | h
  · obtain ⟨h1, h2⟩ := sorts_at h
    have h1 : T.len = 2 := h1
    exact ⟨.inl h1, exp_sort (h2 0 (by decide)), blk_sort (h2 1 (by decide)), fun h => by omega⟩
  · obtain ⟨h1, h2⟩ := sorts_at h
    have h1 : T.len = 3 := h1
    exact ⟨.inr h1, exp_sort (h2 0 (by decide)), blk_sort (h2 1 (by decide)), fun _ => els_sort (h2 2 (by decide))⟩
theorem st_ok_11 {T : Nd} (hk : T.kind = 11) (h : T.sOk = true) : (T.len = 1 ∧ (T.kids 0).kind = 4 ∧ (T.kids 0).sOk = true) ∨ (T.len = 2 ∧ (T.kids 0).eOk = true ∧ ((T.kids 1).kind = 4 ∧ (T.kids 1).sOk = true)) := by
  rw [sOk_eq, hk] at h
  simp only [stmtB, Int.reduceEq, if_true, if_false, or_self, Bool.and_eq_true, Bool.or_eq_true] at h
  rcases h.2 with h | h
  · obtain ⟨h1, h2⟩ := sorts_at h
    exact .inl ⟨h1, blk_sort (h2 0 (by decide))⟩
  · obtain ⟨h1, h2⟩ := sorts_at h
    exact .inr ⟨h1, exp_sort (h2 0 (by decide)), blk_sort (h2 1 (by decide))⟩
theorem st_ok_15 {T : Nd} (hk : T.kind = 15) (h : T.sOk = true) : ∀ i, i < T.len → (T.kids i).cOk = true := by
  rw [sOk_eq, hk] at h
  simp [stmtB] at h
  exact allTo_iff.1 h.2
theorem cs_ok {T : Nd} (h : T.cOk = true) : T.kind = 16 ∧ ((T.num = 0 ∧ T.len = 1) ∨ (T.num = 1 ∧ T.len = 2 ∧ (T.kids 0).eOk = true) ∨ (T.num = 2 ∧ T.len = 3 ∧ (T.kids 0).eOk = true ∧ (T.kids 1).eOk = true)) ∧ (T.kids (T.len - 1)).kind = 4 ∧ (T.kids (T.len - 1)).sOk = true := by
  rw [cOk_eq] at h
  by_cases hk : T.kind = 16
  · simp only [caseB, hk, if_true, Bool.and_eq_true] at h
    have h := h.2
    by_cases h0 : T.num = 0
    · rw [if_pos h0] at h
      obtain ⟨h1, h2⟩ := sorts_at h
      have h1 : T.len = 1 := h1
      rw [h1]
      exact ⟨hk, .inl ⟨h0, rfl⟩, blk_sort (h2 0 (by decide))⟩
    rw [if_neg h0] at h
    by_cases h01 : T.num = 1
    · rw [if_pos h01] at h
      obtain ⟨h1, h2⟩ := sorts_at h
      have h1 : T.len = 2 := h1
      rw [h1]
      exact ⟨hk, .inr (.inl ⟨h01, rfl, exp_sort (h2 0 (by decide))⟩), blk_sort (h2 1 (by decide))⟩
    rw [if_neg h01] at h
    by_cases h02 : T.num = 2
    · rw [if_pos h02] at h
      obtain ⟨h1, h2⟩ := sorts_at h
      have h1 : T.len = 3 := h1
      rw [h1]
      exact ⟨hk, .inr (.inr ⟨h02, rfl, exp_sort (h2 0 (by decide)), exp_sort (h2 1 (by decide))⟩), blk_sort (h2 2 (by decide))⟩
    rw [if_neg h02] at h
    cases h
  · simp [caseB, hk] at h

set_option maxHeartbeats 4000000 in
set_option maxRecDepth 100000 in
theorem st_4 (T : Nd) (hk : T.kind = 4) (ih : StsC T) : SmC T := by
  intro ob own X d w v hbuf hf hr hok hb
  have hn := T.fine_len hf
  rw [st_text_4 T hk] at hb ⊢
  have hE := st_ok_4 hk hok
  obtain ⟨a, cap, rfl, _⟩ := row_eq.1 hr
  have hval : T.val (.slice a T.len cap) = .agg #[.int .i64 4, .int .i64 T.num, .string T.name, .slice a T.len cap] := by unfold Nd.val; rw [hk]
  rw [hval]
  have HP := hid_mk (Pst.startB hbuf (.cells #[.int .i64 4, .int .i64 T.num, .string T.name, .slice a T.len cap] 30))
  have HN := hid_mk (Pst.node hbuf (.int .i64 4) (.int .i64 T.num) (.string T.name) (.slice a T.len cap) 30)
  have HBK := hid_mk (fun Y W (h : Pst ob own (w.alloc (.cells #[.int .i64 4, .int .i64 T.num, .string T.name, .slice a T.len cap] 30)) Y W) hb => h.block (T := T) (block_of T ih) d (.slice a T.len cap) hf (row_alloc hbuf hr (.cells #[.int .i64 4, .int .i64 T.num, .string T.name, .slice a T.len cap] 30)) hE hb)
  rw [hval] at HBK
  have HB := hid_mk hb
  clear hE hb hr hf hok hbuf hk hval
  generalize T.name = ts at *
  generalize T.num = tn at *
  go_enter Tryz.func46, Tryz.ntmps46
  go_wp2_with (first
    | (go_at_call 21; refine (HBK.out _ _ HP.out HB.out).mono ?_; rintro e w2 ⟨rfl, hp⟩; have HP := hid_mk hp; clear hp))
  go_end0
  exact HP.out.addsB rfl

set_option maxHeartbeats 4000000 in
set_option maxRecDepth 100000 in
theorem st_10 (T : Nd) (hk : T.kind = 10) (ih : BrC T) : SmC T := by
  intro ob own X d w v hbuf hf hr hok hb
  have hn := T.fine_len hf
  rw [st_text_10 T hk] at hb ⊢
  obtain ⟨a, cap, rfl, _⟩ := row_eq.1 hr
  have hval : T.val (.slice a T.len cap) = .agg #[.int .i64 10, .int .i64 T.num, .string T.name, .slice a T.len cap] := by unfold Nd.val; rw [hk]
  rw [hval]
  have HP := hid_mk (Pst.startB hbuf (.cells #[.int .i64 10, .int .i64 T.num, .string T.name, .slice a T.len cap] 30))
  have HN := hid_mk (Pst.node hbuf (.int .i64 10) (.int .i64 T.num) (.string T.name) (.slice a T.len cap) 30)
  have HBR := hid_mk (fun Y W (h : Pst ob own (w.alloc (.cells #[.int .i64 10, .int .i64 T.num, .string T.name, .slice a T.len cap] 30)) Y W) hb => h.branch (T := T) ih d (.slice a T.len cap) hf (row_alloc hbuf hr (.cells #[.int .i64 10, .int .i64 T.num, .string T.name, .slice a T.len cap] 30)) hok hb)
  rw [hval, st_text_10 T hk] at HBR
  have HB := hid_mk hb
  clear hb hr hf hok hbuf hk hval
  generalize hgen : [105, 102, 32] ++ ((prN (T.kids 0)).ex 1 ++ (32 :: (blockT d ((prN (T.kids 1)).sts (d + 1)) ++ (if T.len = 3 then [32, 101, 108, 115, 101, 32] ++ (prN (T.kids 2)).st d else [])))) = txt at *
  clear hgen
  generalize T.name = ts at *
  generalize T.num = tn at *
  go_enter Tryz.func46, Tryz.ntmps46
  go_wp2_with (first
    | (go_at_call 60; refine (HBR.out _ _ HP.out HB.out).mono ?_; rintro e w2 ⟨rfl, hp⟩; have HP := hid_mk hp; clear hp))
  go_end0
  exact HP.out.addsB rfl

set_option maxHeartbeats 4000000 in
set_option maxRecDepth 100000 in
theorem br_10a (T : Nd) (hk : T.kind = 10) (h0 : T.len = 2) (ih1 : StsC (T.kids 1)) : BrC T := by
  intro ob own X d w v hbuf hf hr hok hb
  have hn := T.fine_len hf
  rw [st_text_10 T hk] at hb ⊢
  obtain ⟨_, hE0, k1, _⟩ := st_ok_10 hk hok
  rw [if_neg (by omega)] at hb ⊢
  have HE0 := hid_mk hE0
  have HBK1 := hid_mk (block_of (T.kids 1) ih1)
  have HS1 := hid_mk (st_ok_4 k1.1 k1.2)
  obtain ⟨g, off, cap, rfl, hg, hcap, hkid⟩ := kid_at hr (by omega)
  obtain ⟨u0, hc0, hr0⟩ := hkid 0 (by omega)
  simp only [Nat.zero_mul, Nat.add_zero] at hc0
  have hlt0 : 0 < T.len := by omega
  obtain ⟨u1, hc1, hr1⟩ := hkid 1 (by omega)
  simp only [Nat.one_mul] at hc1
  have hlt1 : 1 < T.len := by omega
  have hval : T.val (.slice (some ⟨g, off, none⟩) T.len cap) = .agg #[.int .i64 10, .int .i64 T.num, .string T.name, .slice (some ⟨g, off, none⟩) 2 cap] := by unfold Nd.val; rw [hk, h0]
  rw [hval]
  have HP := hid_mk (Pst.startB hbuf (.cells #[.int .i64 10, .int .i64 T.num, .string T.name, .slice (some ⟨g, off, none⟩) 2 cap] 30))
  have HN := hid_mk (Pst.node hbuf (.int .i64 10) (.int .i64 T.num) (.string T.name) (.slice (some ⟨g, off, none⟩) 2 cap) 30)
  have HC0 := hid_mk (fun Y W (h : Pst ob own (w.alloc (.cells #[.int .i64 10, .int .i64 T.num, .string T.name, .slice (some ⟨g, off, none⟩) 2 cap] 30)) Y W) => hc0 W (h.belowB hbuf))
  have HR0 := hid_mk (row_alloc hbuf hr0 (.cells #[.int .i64 10, .int .i64 T.num, .string T.name, .slice (some ⟨g, off, none⟩) 2 cap] 30))
  have HI0 := hid_mk (ex_all (T.kids 0))
  have HF0 := hid_mk (Nd.fine_kid hf hlt0)
  have HC1 := hid_mk (fun Y W (h : Pst ob own (w.alloc (.cells #[.int .i64 10, .int .i64 T.num, .string T.name, .slice (some ⟨g, off, none⟩) 2 cap] 30)) Y W) => hc1 W (h.belowB hbuf))
  have HR1 := hid_mk (row_alloc hbuf hr1 (.cells #[.int .i64 10, .int .i64 T.num, .string T.name, .slice (some ⟨g, off, none⟩) 2 cap] 30))
  have HI1 := hid_mk (ex_all (T.kids 1))
  have HF1 := hid_mk (Nd.fine_kid hf hlt1)
  have HB := hid_mk hb
  clear hE0 k1 ih1 hlt0 hlt1 h0 hb hr hf hok hbuf hk hval hc0 hr0 hc1 hr1 hkid hcap
  obtain ⟨c00, c01, c02, c03⟩ := HC0.out _ _ HP.out
  obtain ⟨c10, c11, c12, c13⟩ := HC1.out _ _ HP.out
  generalize T.kids 0 = K0 at *
  generalize T.kids 1 = K1 at *
  generalize T.name = ts at *
  generalize T.num = tn at *
  go_enter Tryz.func60, Tryz.ntmps60
  go_wp2_with (first
    | (go_at_call 19; refine (HP.out.add _ (by have := HB.out; simp [blockT, tabsT] at this ⊢; omega)).mono ?_; rintro e w2 ⟨rfl, hp⟩; obtain ⟨b0, b1, b2, b3⟩ := HN.out _ _ hp; obtain ⟨c00, c01, c02, c03⟩ := HC0.out _ _ hp; obtain ⟨c10, c11, c12, c13⟩ := HC1.out _ _ hp; have HP := hid_mk hp; clear hp)
    | (go_at_call_of 59 u0; refine (HP.out.expr HI0.out 1 u0 HF0.out HR0.out HE0.out (by decide) (by have := HB.out; simp [blockT, tabsT] at this ⊢; omega)).mono ?_; rintro e w2 ⟨rfl, hp⟩; obtain ⟨b0, b1, b2, b3⟩ := HN.out _ _ hp; obtain ⟨c00, c01, c02, c03⟩ := HC0.out _ _ hp; obtain ⟨c10, c11, c12, c13⟩ := HC1.out _ _ hp; have HP := hid_mk hp; clear hp)
    | (go_at_call_of 21 u1; refine (HP.out.block HBK1.out d u1 HF1.out HR1.out HS1.out (by have := HB.out; simp [blockT, tabsT] at this ⊢; omega)).mono ?_; rintro e w2 ⟨rfl, hp⟩; obtain ⟨b0, b1, b2, b3⟩ := HN.out _ _ hp; obtain ⟨c00, c01, c02, c03⟩ := HC0.out _ _ hp; obtain ⟨c10, c11, c12, c13⟩ := HC1.out _ _ hp; have HP := hid_mk hp; clear hp))
  go_end0
  exact HP.out.addsB (by simp [blockT])

set_option maxHeartbeats 4000000 in
set_option maxRecDepth 100000 in
theorem br_10b (T : Nd) (hk : T.kind = 10) (h0 : T.len = 3) (h2 : (T.kids 2).kind = 10) (ih1 : StsC (T.kids 1)) (ih2 : BrC (T.kids 2)) : BrC T := by
  intro ob own X d w v hbuf hf hr hok hb
  have hn := T.fine_len hf
  rw [st_text_10 T hk] at hb ⊢
  obtain ⟨_, hE0, k1, k2⟩ := st_ok_10 hk hok
  rw [if_pos h0] at hb ⊢
  have HE0 := hid_mk hE0
  have HE2 := hid_mk (k2 h0).2
  have hk2 : ((T.kids 2).kind == 10) = true := by simp [h2]
  have HBR := hid_mk ih2
  have HBK1 := hid_mk (block_of (T.kids 1) ih1)
  have HS1 := hid_mk (st_ok_4 k1.1 k1.2)
  obtain ⟨g, off, cap, rfl, hg, hcap, hkid⟩ := kid_at hr (by omega)
  obtain ⟨u0, hc0, hr0⟩ := hkid 0 (by omega)
  simp only [Nat.zero_mul, Nat.add_zero] at hc0
  have hlt0 : 0 < T.len := by omega
  obtain ⟨u1, hc1, hr1⟩ := hkid 1 (by omega)
  simp only [Nat.one_mul] at hc1
  have hlt1 : 1 < T.len := by omega
  obtain ⟨u2, hc2, hr2⟩ := hkid 2 (by omega)
  simp only [Nat.reduceMul] at hc2
  have hlt2 : 2 < T.len := by omega
  have hval : T.val (.slice (some ⟨g, off, none⟩) T.len cap) = .agg #[.int .i64 10, .int .i64 T.num, .string T.name, .slice (some ⟨g, off, none⟩) 3 cap] := by unfold Nd.val; rw [hk, h0]
  rw [hval]
  have HP := hid_mk (Pst.startB hbuf (.cells #[.int .i64 10, .int .i64 T.num, .string T.name, .slice (some ⟨g, off, none⟩) 3 cap] 30))
  have HN := hid_mk (Pst.node hbuf (.int .i64 10) (.int .i64 T.num) (.string T.name) (.slice (some ⟨g, off, none⟩) 3 cap) 30)
  have HC0 := hid_mk (fun Y W (h : Pst ob own (w.alloc (.cells #[.int .i64 10, .int .i64 T.num, .string T.name, .slice (some ⟨g, off, none⟩) 3 cap] 30)) Y W) => hc0 W (h.belowB hbuf))
  have HR0 := hid_mk (row_alloc hbuf hr0 (.cells #[.int .i64 10, .int .i64 T.num, .string T.name, .slice (some ⟨g, off, none⟩) 3 cap] 30))
  have HI0 := hid_mk (ex_all (T.kids 0))
  have HF0 := hid_mk (Nd.fine_kid hf hlt0)
  have HC1 := hid_mk (fun Y W (h : Pst ob own (w.alloc (.cells #[.int .i64 10, .int .i64 T.num, .string T.name, .slice (some ⟨g, off, none⟩) 3 cap] 30)) Y W) => hc1 W (h.belowB hbuf))
  have HR1 := hid_mk (row_alloc hbuf hr1 (.cells #[.int .i64 10, .int .i64 T.num, .string T.name, .slice (some ⟨g, off, none⟩) 3 cap] 30))
  have HI1 := hid_mk (ex_all (T.kids 1))
  have HF1 := hid_mk (Nd.fine_kid hf hlt1)
  have HC2 := hid_mk (fun Y W (h : Pst ob own (w.alloc (.cells #[.int .i64 10, .int .i64 T.num, .string T.name, .slice (some ⟨g, off, none⟩) 3 cap] 30)) Y W) => hc2 W (h.belowB hbuf))
  have HR2 := hid_mk (row_alloc hbuf hr2 (.cells #[.int .i64 10, .int .i64 T.num, .string T.name, .slice (some ⟨g, off, none⟩) 3 cap] 30))
  have HI2 := hid_mk (ex_all (T.kids 2))
  have HF2 := hid_mk (Nd.fine_kid hf hlt2)
  have HB := hid_mk hb
  clear hE0 k1 k2 ih1 ih2 h2 hlt0 hlt1 hlt2 h0 hb hr hf hok hbuf hk hval hc0 hr0 hc1 hr1 hc2 hr2 hkid hcap
  obtain ⟨c00, c01, c02, c03⟩ := HC0.out _ _ HP.out
  obtain ⟨c10, c11, c12, c13⟩ := HC1.out _ _ HP.out
  obtain ⟨c20, c21, c22, c23⟩ := HC2.out _ _ HP.out
  generalize T.kids 0 = K0 at *
  generalize T.kids 1 = K1 at *
  generalize T.kids 2 = K2 at *
  generalize T.name = ts at *
  generalize T.num = tn at *
  go_enter Tryz.func60, Tryz.ntmps60
  go_wp2_with (first
    | (go_at_call 19; refine (HP.out.add _ (by have := HB.out; simp [blockT, tabsT] at this ⊢; omega)).mono ?_; rintro e w2 ⟨rfl, hp⟩; obtain ⟨b0, b1, b2, b3⟩ := HN.out _ _ hp; obtain ⟨c00, c01, c02, c03⟩ := HC0.out _ _ hp; obtain ⟨c10, c11, c12, c13⟩ := HC1.out _ _ hp; obtain ⟨c20, c21, c22, c23⟩ := HC2.out _ _ hp; have HP := hid_mk hp; clear hp)
    | (go_at_call_of 59 u0; refine (HP.out.expr HI0.out 1 u0 HF0.out HR0.out HE0.out (by decide) (by have := HB.out; simp [blockT, tabsT] at this ⊢; omega)).mono ?_; rintro e w2 ⟨rfl, hp⟩; obtain ⟨b0, b1, b2, b3⟩ := HN.out _ _ hp; obtain ⟨c00, c01, c02, c03⟩ := HC0.out _ _ hp; obtain ⟨c10, c11, c12, c13⟩ := HC1.out _ _ hp; obtain ⟨c20, c21, c22, c23⟩ := HC2.out _ _ hp; have HP := hid_mk hp; clear hp)
    | (go_at_call_of 21 u1; refine (HP.out.block HBK1.out d u1 HF1.out HR1.out HS1.out (by have := HB.out; simp [blockT, tabsT] at this ⊢; omega)).mono ?_; rintro e w2 ⟨rfl, hp⟩; obtain ⟨b0, b1, b2, b3⟩ := HN.out _ _ hp; obtain ⟨c00, c01, c02, c03⟩ := HC0.out _ _ hp; obtain ⟨c10, c11, c12, c13⟩ := HC1.out _ _ hp; obtain ⟨c20, c21, c22, c23⟩ := HC2.out _ _ hp; have HP := hid_mk hp; clear hp)
    | (go_at_call 60; refine (HP.out.branch HBR.out d u2 HF2.out HR2.out HE2.out (by have := HB.out; simp [blockT, tabsT] at this ⊢; omega)).mono ?_; rintro e w2 ⟨rfl, hp⟩; have HP := hid_mk hp; clear hp))
  go_end0
  exact HP.out.addsB (by simp [blockT])

set_option maxHeartbeats 4000000 in
set_option maxRecDepth 100000 in
theorem br_10c (T : Nd) (hk : T.kind = 10) (h0 : T.len = 3) (h2 : (T.kids 2).kind = 4) (ih1 : StsC (T.kids 1)) (ih2 : StsC (T.kids 2)) : BrC T := by
  intro ob own X d w v hbuf hf hr hok hb
  have hn := T.fine_len hf
  rw [st_text_10 T hk] at hb ⊢
  obtain ⟨_, hE0, k1, k2⟩ := st_ok_10 hk hok
  rw [if_pos h0, st_text_4 _ h2] at hb ⊢
  have HE0 := hid_mk hE0
  have HS2 := hid_mk (st_ok_4 h2 (k2 h0).2)
  have hk2 : ((T.kids 2).kind == 10) = false := by simp [h2]
  have HBK2 := hid_mk (block_of (T.kids 2) ih2)
  have HBK1 := hid_mk (block_of (T.kids 1) ih1)
  have HS1 := hid_mk (st_ok_4 k1.1 k1.2)
  obtain ⟨g, off, cap, rfl, hg, hcap, hkid⟩ := kid_at hr (by omega)
  obtain ⟨u0, hc0, hr0⟩ := hkid 0 (by omega)
  simp only [Nat.zero_mul, Nat.add_zero] at hc0
  have hlt0 : 0 < T.len := by omega
  obtain ⟨u1, hc1, hr1⟩ := hkid 1 (by omega)
  simp only [Nat.one_mul] at hc1
  have hlt1 : 1 < T.len := by omega
  obtain ⟨u2, hc2, hr2⟩ := hkid 2 (by omega)
  simp only [Nat.reduceMul] at hc2
  have hlt2 : 2 < T.len := by omega
  have hval : T.val (.slice (some ⟨g, off, none⟩) T.len cap) = .agg #[.int .i64 10, .int .i64 T.num, .string T.name, .slice (some ⟨g, off, none⟩) 3 cap] := by unfold Nd.val; rw [hk, h0]
  rw [hval]
  have HP := hid_mk (Pst.startB hbuf (.cells #[.int .i64 10, .int .i64 T.num, .string T.name, .slice (some ⟨g, off, none⟩) 3 cap] 30))
  have HN := hid_mk (Pst.node hbuf (.int .i64 10) (.int .i64 T.num) (.string T.name) (.slice (some ⟨g, off, none⟩) 3 cap) 30)
  have HC0 := hid_mk (fun Y W (h : Pst ob own (w.alloc (.cells #[.int .i64 10, .int .i64 T.num, .string T.name, .slice (some ⟨g, off, none⟩) 3 cap] 30)) Y W) => hc0 W (h.belowB hbuf))
  have HR0 := hid_mk (row_alloc hbuf hr0 (.cells #[.int .i64 10, .int .i64 T.num, .string T.name, .slice (some ⟨g, off, none⟩) 3 cap] 30))
  have HI0 := hid_mk (ex_all (T.kids 0))
  have HF0 := hid_mk (Nd.fine_kid hf hlt0)
  have HC1 := hid_mk (fun Y W (h : Pst ob own (w.alloc (.cells #[.int .i64 10, .int .i64 T.num, .string T.name, .slice (some ⟨g, off, none⟩) 3 cap] 30)) Y W) => hc1 W (h.belowB hbuf))
  have HR1 := hid_mk (row_alloc hbuf hr1 (.cells #[.int .i64 10, .int .i64 T.num, .string T.name, .slice (some ⟨g, off, none⟩) 3 cap] 30))
  have HI1 := hid_mk (ex_all (T.kids 1))
  have HF1 := hid_mk (Nd.fine_kid hf hlt1)
  have HC2 := hid_mk (fun Y W (h : Pst ob own (w.alloc (.cells #[.int .i64 10, .int .i64 T.num, .string T.name, .slice (some ⟨g, off, none⟩) 3 cap] 30)) Y W) => hc2 W (h.belowB hbuf))
  have HR2 := hid_mk (row_alloc hbuf hr2 (.cells #[.int .i64 10, .int .i64 T.num, .string T.name, .slice (some ⟨g, off, none⟩) 3 cap] 30))
  have HI2 := hid_mk (ex_all (T.kids 2))
  have HF2 := hid_mk (Nd.fine_kid hf hlt2)
  have HB := hid_mk hb
  clear hE0 k1 k2 ih1 ih2 h2 hlt0 hlt1 hlt2 h0 hb hr hf hok hbuf hk hval hc0 hr0 hc1 hr1 hc2 hr2 hkid hcap
  obtain ⟨c00, c01, c02, c03⟩ := HC0.out _ _ HP.out
  obtain ⟨c10, c11, c12, c13⟩ := HC1.out _ _ HP.out
  obtain ⟨c20, c21, c22, c23⟩ := HC2.out _ _ HP.out
  generalize T.kids 0 = K0 at *
  generalize T.kids 1 = K1 at *
  generalize T.kids 2 = K2 at *
  generalize T.name = ts at *
  generalize T.num = tn at *
  go_enter Tryz.func60, Tryz.ntmps60
  go_wp2_with (first
    | (go_at_call 19; refine (HP.out.add _ (by have := HB.out; simp [blockT, tabsT] at this ⊢; omega)).mono ?_; rintro e w2 ⟨rfl, hp⟩; obtain ⟨b0, b1, b2, b3⟩ := HN.out _ _ hp; obtain ⟨c00, c01, c02, c03⟩ := HC0.out _ _ hp; obtain ⟨c10, c11, c12, c13⟩ := HC1.out _ _ hp; obtain ⟨c20, c21, c22, c23⟩ := HC2.out _ _ hp; have HP := hid_mk hp; clear hp)
    | (go_at_call_of 59 u0; refine (HP.out.expr HI0.out 1 u0 HF0.out HR0.out HE0.out (by decide) (by have := HB.out; simp [blockT, tabsT] at this ⊢; omega)).mono ?_; rintro e w2 ⟨rfl, hp⟩; obtain ⟨b0, b1, b2, b3⟩ := HN.out _ _ hp; obtain ⟨c00, c01, c02, c03⟩ := HC0.out _ _ hp; obtain ⟨c10, c11, c12, c13⟩ := HC1.out _ _ hp; obtain ⟨c20, c21, c22, c23⟩ := HC2.out _ _ hp; have HP := hid_mk hp; clear hp)
    | (go_at_call_of 21 u1; refine (HP.out.block HBK1.out d u1 HF1.out HR1.out HS1.out (by have := HB.out; simp [blockT, tabsT] at this ⊢; omega)).mono ?_; rintro e w2 ⟨rfl, hp⟩; obtain ⟨b0, b1, b2, b3⟩ := HN.out _ _ hp; obtain ⟨c00, c01, c02, c03⟩ := HC0.out _ _ hp; obtain ⟨c10, c11, c12, c13⟩ := HC1.out _ _ hp; obtain ⟨c20, c21, c22, c23⟩ := HC2.out _ _ hp; have HP := hid_mk hp; clear hp)
    | (go_at_call_of 21 u2; refine (HP.out.block HBK2.out d u2 HF2.out HR2.out HS2.out (by have := HB.out; simp [blockT, tabsT] at this ⊢; omega)).mono ?_; rintro e w2 ⟨rfl, hp⟩; obtain ⟨b0, b1, b2, b3⟩ := HN.out _ _ hp; obtain ⟨c00, c01, c02, c03⟩ := HC0.out _ _ hp; obtain ⟨c10, c11, c12, c13⟩ := HC1.out _ _ hp; obtain ⟨c20, c21, c22, c23⟩ := HC2.out _ _ hp; have HP := hid_mk hp; clear hp))
  go_end0
  exact HP.out.addsB (by simp [blockT])

set_option maxHeartbeats 4000000 in
set_option maxRecDepth 100000 in
theorem st_11a (T : Nd) (hk : T.kind = 11) (h0 : T.len = 1) (ih0 : StsC (T.kids 0)) : SmC T := by
  intro ob own X d w v hbuf hf hr hok hb
  have hn := T.fine_len hf
  rw [st_text_11 T hk] at hb ⊢
  have k0 : (T.kids 0).kind = 4 ∧ (T.kids 0).sOk = true := by rcases st_ok_11 hk hok with h | h; exact h.2; omega
  rw [if_neg (by omega), show T.len - 1 = 0 by omega] at hb ⊢
  have HBK0 := hid_mk (block_of (T.kids 0) ih0)
  have HS0 := hid_mk (st_ok_4 k0.1 k0.2)
  obtain ⟨g, off, cap, rfl, hg, hcap, hkid⟩ := kid_at hr (by omega)
  obtain ⟨u0, hc0, hr0⟩ := hkid 0 (by omega)
  simp only [Nat.zero_mul, Nat.add_zero] at hc0
  have hlt0 : 0 < T.len := by omega
  have hval : T.val (.slice (some ⟨g, off, none⟩) T.len cap) = .agg #[.int .i64 11, .int .i64 T.num, .string T.name, .slice (some ⟨g, off, none⟩) 1 cap] := by unfold Nd.val; rw [hk, h0]
  rw [hval]
  have HP := hid_mk (Pst.startB hbuf (.cells #[.int .i64 11, .int .i64 T.num, .string T.name, .slice (some ⟨g, off, none⟩) 1 cap] 30))
  have HN := hid_mk (Pst.node hbuf (.int .i64 11) (.int .i64 T.num) (.string T.name) (.slice (some ⟨g, off, none⟩) 1 cap) 30)
  have HC0 := hid_mk (fun Y W (h : Pst ob own (w.alloc (.cells #[.int .i64 11, .int .i64 T.num, .string T.name, .slice (some ⟨g, off, none⟩) 1 cap] 30)) Y W) => hc0 W (h.belowB hbuf))
  have HR0 := hid_mk (row_alloc hbuf hr0 (.cells #[.int .i64 11, .int .i64 T.num, .string T.name, .slice (some ⟨g, off, none⟩) 1 cap] 30))
  have HI0 := hid_mk (ex_all (T.kids 0))
  have HF0 := hid_mk (Nd.fine_kid hf hlt0)
  have HB := hid_mk hb
  clear k0 ih0 hlt0 h0 hb hr hf hok hbuf hk hval hc0 hr0 hkid hcap
  obtain ⟨c00, c01, c02, c03⟩ := HC0.out _ _ HP.out
  generalize T.kids 0 = K0 at *
  generalize T.name = ts at *
  generalize T.num = tn at *
  go_enter Tryz.func46, Tryz.ntmps46
  go_wp2_with (first
    | (go_at_call 19; refine (HP.out.add _ (by have := HB.out; simp [blockT, tabsT] at this ⊢; omega)).mono ?_; rintro e w2 ⟨rfl, hp⟩; obtain ⟨b0, b1, b2, b3⟩ := HN.out _ _ hp; obtain ⟨c00, c01, c02, c03⟩ := HC0.out _ _ hp; have HP := hid_mk hp; clear hp)
    | (go_at_call_of 21 u0; refine (HP.out.block HBK0.out d u0 HF0.out HR0.out HS0.out (by have := HB.out; simp [blockT, tabsT] at this ⊢; omega)).mono ?_; rintro e w2 ⟨rfl, hp⟩; obtain ⟨b0, b1, b2, b3⟩ := HN.out _ _ hp; obtain ⟨c00, c01, c02, c03⟩ := HC0.out _ _ hp; have HP := hid_mk hp; clear hp))
  go_end0
  exact HP.out.addsB (by simp [blockT])

set_option maxHeartbeats 4000000 in
set_option maxRecDepth 100000 in
theorem st_11b (T : Nd) (hk : T.kind = 11) (h0 : T.len = 2) (ih1 : StsC (T.kids 1)) : SmC T := by
  intro ob own X d w v hbuf hf hr hok hb
  have hn := T.fine_len hf
  rw [st_text_11 T hk] at hb ⊢
  have k0 : (T.kids 0).eOk = true ∧ ((T.kids 1).kind = 4 ∧ (T.kids 1).sOk = true) := by rcases st_ok_11 hk hok with h | h; omega; exact h.2
  have k1 := k0.2
  rw [if_pos h0, show T.len - 1 = 1 by omega] at hb ⊢
  have HE0 := hid_mk k0.1
  have HBK1 := hid_mk (block_of (T.kids 1) ih1)
  have HS1 := hid_mk (st_ok_4 k1.1 k1.2)
  obtain ⟨g, off, cap, rfl, hg, hcap, hkid⟩ := kid_at hr (by omega)
  obtain ⟨u0, hc0, hr0⟩ := hkid 0 (by omega)
  simp only [Nat.zero_mul, Nat.add_zero] at hc0
  have hlt0 : 0 < T.len := by omega
  obtain ⟨u1, hc1, hr1⟩ := hkid 1 (by omega)
  simp only [Nat.one_mul] at hc1
  have hlt1 : 1 < T.len := by omega
  have hval : T.val (.slice (some ⟨g, off, none⟩) T.len cap) = .agg #[.int .i64 11, .int .i64 T.num, .string T.name, .slice (some ⟨g, off, none⟩) 2 cap] := by unfold Nd.val; rw [hk, h0]
  rw [hval]
  have HP := hid_mk (Pst.startB hbuf (.cells #[.int .i64 11, .int .i64 T.num, .string T.name, .slice (some ⟨g, off, none⟩) 2 cap] 30))
  have HN := hid_mk (Pst.node hbuf (.int .i64 11) (.int .i64 T.num) (.string T.name) (.slice (some ⟨g, off, none⟩) 2 cap) 30)
  have HC0 := hid_mk (fun Y W (h : Pst ob own (w.alloc (.cells #[.int .i64 11, .int .i64 T.num, .string T.name, .slice (some ⟨g, off, none⟩) 2 cap] 30)) Y W) => hc0 W (h.belowB hbuf))
  have HR0 := hid_mk (row_alloc hbuf hr0 (.cells #[.int .i64 11, .int .i64 T.num, .string T.name, .slice (some ⟨g, off, none⟩) 2 cap] 30))
  have HI0 := hid_mk (ex_all (T.kids 0))
  have HF0 := hid_mk (Nd.fine_kid hf hlt0)
  have HC1 := hid_mk (fun Y W (h : Pst ob own (w.alloc (.cells #[.int .i64 11, .int .i64 T.num, .string T.name, .slice (some ⟨g, off, none⟩) 2 cap] 30)) Y W) => hc1 W (h.belowB hbuf))
  have HR1 := hid_mk (row_alloc hbuf hr1 (.cells #[.int .i64 11, .int .i64 T.num, .string T.name, .slice (some ⟨g, off, none⟩) 2 cap] 30))
  have HI1 := hid_mk (ex_all (T.kids 1))
  have HF1 := hid_mk (Nd.fine_kid hf hlt1)
  have HB := hid_mk hb
  clear k0 k1 ih1 hlt0 hlt1 h0 hb hr hf hok hbuf hk hval hc0 hr0 hc1 hr1 hkid hcap
  obtain ⟨c00, c01, c02, c03⟩ := HC0.out _ _ HP.out
  obtain ⟨c10, c11, c12, c13⟩ := HC1.out _ _ HP.out
  generalize T.kids 0 = K0 at *
  generalize T.kids 1 = K1 at *
  generalize T.name = ts at *
  generalize T.num = tn at *
  go_enter Tryz.func46, Tryz.ntmps46
  go_wp2_with (first
    | (go_at_call 19; refine (HP.out.add _ (by have := HB.out; simp [blockT, tabsT] at this ⊢; omega)).mono ?_; rintro e w2 ⟨rfl, hp⟩; obtain ⟨b0, b1, b2, b3⟩ := HN.out _ _ hp; obtain ⟨c00, c01, c02, c03⟩ := HC0.out _ _ hp; obtain ⟨c10, c11, c12, c13⟩ := HC1.out _ _ hp; have HP := hid_mk hp; clear hp)
    | (go_at_call_of 59 u0; refine (HP.out.expr HI0.out 1 u0 HF0.out HR0.out HE0.out (by decide) (by have := HB.out; simp [blockT, tabsT] at this ⊢; omega)).mono ?_; rintro e w2 ⟨rfl, hp⟩; obtain ⟨b0, b1, b2, b3⟩ := HN.out _ _ hp; obtain ⟨c00, c01, c02, c03⟩ := HC0.out _ _ hp; obtain ⟨c10, c11, c12, c13⟩ := HC1.out _ _ hp; have HP := hid_mk hp; clear hp)
    | (go_at_call_of 21 u1; refine (HP.out.block HBK1.out d u1 HF1.out HR1.out HS1.out (by have := HB.out; simp [blockT, tabsT] at this ⊢; omega)).mono ?_; rintro e w2 ⟨rfl, hp⟩; obtain ⟨b0, b1, b2, b3⟩ := HN.out _ _ hp; obtain ⟨c00, c01, c02, c03⟩ := HC0.out _ _ hp; obtain ⟨c10, c11, c12, c13⟩ := HC1.out _ _ hp; have HP := hid_mk hp; clear hp))
  go_end0
  exact HP.out.addsB (by simp [blockT])

end Go.Proofs.YtacamenjijlemaaGreatDoor

/- The specification's printer: the head of a case; a select; all statements. -/
namespace Go.Proofs.YtacamenjijlemaaGreatDoor
open Go.RowKit

def ClC (T : Nd) : Prop := ∀ (ob : Nat) (own : Option Nat) (X : List UInt8) (w : World) (v : Value), Buf ob w own X → T.Fine → Row 0 ob w T v →
  X.length + (clauseT T.num T.name.data.toList (fun i => prN (T.kids i))).length ≤ 1099511627776 → Calls Tryz.prog 61 #[.pointer (some ⟨ob, 0, none⟩), T.val v] w (Adds ob X (clauseT T.num T.name.data.toList (fun i => prN (T.kids i))) own w)
theorem Pst.clause {T : Nd} (hT : ClC T) {ob : Nat} {own0 : Option Nat} {w0 w : World} {Y : List UInt8} (h : Pst ob own0 w0 Y w) (v : Value) (hf : T.Fine) (hr : Row 0 ob w0 T v) (hb : Y.length + (clauseT T.num T.name.data.toList (fun i => prN (T.kids i))).length ≤ 1099511627776) :
    Calls Tryz.prog 61 #[.pointer (some ⟨ob, 0, none⟩), T.val v] w fun e w' => e = .returned (.tuple #[]) ∧ Pst ob own0 w0 (Y ++ clauseT T.num T.name.data.toList (fun i => prN (T.kids i))) w' :=
  h.lift fun own hbuf => hT ob own Y w v hbuf hf (row_below h.below (Nat.le_refl _) hr) hb
theorem cl_text_1a {s : ByteArray} (he : s.toList.isEmpty = true) (p : Nat → PrN) : clauseT 1 s.data.toList p = [99, 97, 115, 101, 32] ++ ([60, 45] ++ (p 0).ex 6) := by
  have h : s.data.toList = [] := by rw [ByteArray.toList_eq] at he; simpa using he
  rw [h]; rfl
theorem cl_text_1b {s : ByteArray} (he : s.toList.isEmpty = false) (p : Nat → PrN) : clauseT 1 s.data.toList p = [99, 97, 115, 101, 32] ++ ((s.data.toList ++ [32, 58, 61, 32]) ++ ([60, 45] ++ (p 0).ex 6)) := by
  have h : ¬ s.data.toList = [] := by rw [ByteArray.toList_eq] at he; simpa using he
  unfold clauseT; rw [if_neg (by decide), if_pos rfl, if_neg h]

set_option maxHeartbeats 4000000 in
set_option maxRecDepth 100000 in
theorem cl_0 (T : Nd) (hk : T.kind = 16) (hnum : T.num = 0) (h0 : T.len = 1) : ClC T := by
  intro ob own X w v hbuf hf hr hb
  have hn := T.fine_len hf
  have htx : clauseT T.num T.name.data.toList (fun i => prN (T.kids i)) = [100, 101, 102, 97, 117, 108, 116] := by rw [hnum]; rfl
  rw [htx] at hb ⊢
  obtain ⟨a, cap, rfl, _⟩ := row_eq.1 hr
  have hval : T.val (.slice a T.len cap) = .agg #[.int .i64 16, .int .i64 0, .string T.name, .slice a 1 cap] := by unfold Nd.val; rw [hk, hnum, h0]
  rw [hval]
  have HP := hid_mk (Pst.startB hbuf (.cells #[.int .i64 16, .int .i64 0, .string T.name, .slice a 1 cap] 30))
  have HN := hid_mk (Pst.node hbuf (.int .i64 16) (.int .i64 0) (.string T.name) (.slice a 1 cap) 30)
  have HB := hid_mk hb
  clear hb hr hf hbuf hk hval hnum h0 htx
  generalize T.name = ts at *
  go_enter Tryz.func61, Tryz.ntmps61
  go_wp2_with (first
    | (go_at_call 19; refine (HP.out.add _ (by have := HB.out; simp at this ⊢; omega)).mono ?_; rintro e w2 ⟨rfl, hp⟩; obtain ⟨b0, b1, b2, b3⟩ := HN.out _ _ hp; have HP := hid_mk hp; clear hp))
  go_end0
  exact HP.out.addsB (by simp)

set_option maxHeartbeats 4000000 in
set_option maxRecDepth 100000 in
theorem cl_1a (T : Nd) (hk : T.kind = 16) (hnum : T.num = 1) (h0 : T.len = 2) (he : T.name.toList.isEmpty = true) (hE0 : (T.kids 0).eOk = true) : ClC T := by
  intro ob own X w v hbuf hf hr hb
  have hn := T.fine_len hf
  have htx : clauseT T.num T.name.data.toList (fun i => prN (T.kids i)) = [99, 97, 115, 101, 32] ++ ([60, 45] ++ (prN (T.kids 0)).ex 6) := by rw [hnum]; exact cl_text_1a he _
  rw [htx] at hb ⊢
  obtain ⟨g, off, cap, rfl, hg, hcap, hkid⟩ := kid_at hr (by omega)
  obtain ⟨u0, hc0, hr0⟩ := hkid 0 (by omega)
  simp only [Nat.zero_mul, Nat.add_zero] at hc0
  have hlt0 : 0 < T.len := by omega
  have hval : T.val (.slice (some ⟨g, off, none⟩) T.len cap) = .agg #[.int .i64 16, .int .i64 1, .string T.name, .slice (some ⟨g, off, none⟩) 2 cap] := by unfold Nd.val; rw [hk, hnum, h0]
  rw [hval]
  have HP := hid_mk (Pst.startB hbuf (.cells #[.int .i64 16, .int .i64 1, .string T.name, .slice (some ⟨g, off, none⟩) 2 cap] 30))
  have HN := hid_mk (Pst.node hbuf (.int .i64 16) (.int .i64 1) (.string T.name) (.slice (some ⟨g, off, none⟩) 2 cap) 30)
  have HC0 := hid_mk (fun Y W (h : Pst ob own (w.alloc (.cells #[.int .i64 16, .int .i64 1, .string T.name, .slice (some ⟨g, off, none⟩) 2 cap] 30)) Y W) => hc0 W (h.belowB hbuf))
  have HR0 := hid_mk (row_alloc hbuf hr0 (.cells #[.int .i64 16, .int .i64 1, .string T.name, .slice (some ⟨g, off, none⟩) 2 cap] 30))
  have HI0 := hid_mk (ex_all (T.kids 0))
  have HF0 := hid_mk (Nd.fine_kid hf hlt0)
  have HE0 := hid_mk hE0
  have HB := hid_mk hb
  clear hb hr hf hbuf hk hval hnum h0 htx hc0 hr0 hE0 hlt0 hkid hcap
  obtain ⟨c00, c01, c02, c03⟩ := HC0.out _ _ HP.out
  generalize T.kids 0 = K0 at *
  generalize T.name = ts at *
  go_enter Tryz.func61, Tryz.ntmps61
  go_wp2_with (first
    | (go_at_call 19; refine (HP.out.add _ (by have := HB.out; simp at this ⊢; omega)).mono ?_; rintro e w2 ⟨rfl, hp⟩; obtain ⟨b0, b1, b2, b3⟩ := HN.out _ _ hp; obtain ⟨c00, c01, c02, c03⟩ := HC0.out _ _ hp; have HP := hid_mk hp; clear hp)
    | (go_at_call_of 59 u0; refine (HP.out.expr HI0.out 6 u0 HF0.out HR0.out HE0.out (by decide) (by have := HB.out; simp at this ⊢; omega)).mono ?_; rintro e w2 ⟨rfl, hp⟩; obtain ⟨b0, b1, b2, b3⟩ := HN.out _ _ hp; obtain ⟨c00, c01, c02, c03⟩ := HC0.out _ _ hp; have HP := hid_mk hp; clear hp))
  go_end0
  exact HP.out.addsB (by simp)

set_option maxHeartbeats 4000000 in
set_option maxRecDepth 100000 in
theorem cl_1b (T : Nd) (hk : T.kind = 16) (hnum : T.num = 1) (h0 : T.len = 2) (he : T.name.toList.isEmpty = false) (hE0 : (T.kids 0).eOk = true) : ClC T := by
  intro ob own X w v hbuf hf hr hb
  have hn := T.fine_len hf
  have htx : clauseT T.num T.name.data.toList (fun i => prN (T.kids i)) = [99, 97, 115, 101, 32] ++ ((T.name.data.toList ++ [32, 58, 61, 32]) ++ ([60, 45] ++ (prN (T.kids 0)).ex 6)) := by rw [hnum]; exact cl_text_1b he _
  rw [htx] at hb ⊢
  have hs : T.name.size ≤ 1099511627776 := by
    have := hb
    simp at this
    omega
  obtain ⟨g, off, cap, rfl, hg, hcap, hkid⟩ := kid_at hr (by omega)
  obtain ⟨u0, hc0, hr0⟩ := hkid 0 (by omega)
  simp only [Nat.zero_mul, Nat.add_zero] at hc0
  have hlt0 : 0 < T.len := by omega
  have hval : T.val (.slice (some ⟨g, off, none⟩) T.len cap) = .agg #[.int .i64 16, .int .i64 1, .string T.name, .slice (some ⟨g, off, none⟩) 2 cap] := by unfold Nd.val; rw [hk, hnum, h0]
  rw [hval]
  have HP := hid_mk (Pst.startB hbuf (.cells #[.int .i64 16, .int .i64 1, .string T.name, .slice (some ⟨g, off, none⟩) 2 cap] 30))
  have HN := hid_mk (Pst.node hbuf (.int .i64 16) (.int .i64 1) (.string T.name) (.slice (some ⟨g, off, none⟩) 2 cap) 30)
  have HC0 := hid_mk (fun Y W (h : Pst ob own (w.alloc (.cells #[.int .i64 16, .int .i64 1, .string T.name, .slice (some ⟨g, off, none⟩) 2 cap] 30)) Y W) => hc0 W (h.belowB hbuf))
  have HR0 := hid_mk (row_alloc hbuf hr0 (.cells #[.int .i64 16, .int .i64 1, .string T.name, .slice (some ⟨g, off, none⟩) 2 cap] 30))
  have HI0 := hid_mk (ex_all (T.kids 0))
  have HF0 := hid_mk (Nd.fine_kid hf hlt0)
  have HE0 := hid_mk hE0
  have HB := hid_mk hb
  clear hb hr hf hbuf hk hval hnum h0 htx hc0 hr0 hE0 hlt0 hkid hcap
  obtain ⟨c00, c01, c02, c03⟩ := HC0.out _ _ HP.out
  generalize T.kids 0 = K0 at *
  generalize T.name = ts at *
  go_enter Tryz.func61, Tryz.ntmps61
  go_wp2_with (first
    | (go_at_call 19; refine (HP.out.add _ (by have := HB.out; simp at this ⊢; omega)).mono ?_; rintro e w2 ⟨rfl, hp⟩; obtain ⟨b0, b1, b2, b3⟩ := HN.out _ _ hp; obtain ⟨c00, c01, c02, c03⟩ := HC0.out _ _ hp; have HP := hid_mk hp; clear hp)
    | (go_at_call_of 59 u0; refine (HP.out.expr HI0.out 6 u0 HF0.out HR0.out HE0.out (by decide) (by have := HB.out; simp at this ⊢; omega)).mono ?_; rintro e w2 ⟨rfl, hp⟩; obtain ⟨b0, b1, b2, b3⟩ := HN.out _ _ hp; obtain ⟨c00, c01, c02, c03⟩ := HC0.out _ _ hp; have HP := hid_mk hp; clear hp))
  go_end0
  exact HP.out.addsB (by simp)

set_option maxHeartbeats 4000000 in
set_option maxRecDepth 100000 in
theorem cl_2 (T : Nd) (hk : T.kind = 16) (hnum : T.num = 2) (h0 : T.len = 3) (hE0 : (T.kids 0).eOk = true) (hE1 : (T.kids 1).eOk = true) : ClC T := by
  intro ob own X w v hbuf hf hr hb
  have hn := T.fine_len hf
  have htx : clauseT T.num T.name.data.toList (fun i => prN (T.kids i)) = [99, 97, 115, 101, 32] ++ ((prN (T.kids 0)).ex 1 ++ ([32, 60, 45, 32] ++ (prN (T.kids 1)).ex 1)) := by rw [hnum]; rfl
  rw [htx] at hb ⊢
  obtain ⟨g, off, cap, rfl, hg, hcap, hkid⟩ := kid_at hr (by omega)
  obtain ⟨u0, hc0, hr0⟩ := hkid 0 (by omega)
  simp only [Nat.zero_mul, Nat.add_zero] at hc0
  have hlt0 : 0 < T.len := by omega
  obtain ⟨u1, hc1, hr1⟩ := hkid 1 (by omega)
  simp only [Nat.one_mul] at hc1
  have hlt1 : 1 < T.len := by omega
  have hval : T.val (.slice (some ⟨g, off, none⟩) T.len cap) = .agg #[.int .i64 16, .int .i64 2, .string T.name, .slice (some ⟨g, off, none⟩) 3 cap] := by unfold Nd.val; rw [hk, hnum, h0]
  rw [hval]
  have HP := hid_mk (Pst.startB hbuf (.cells #[.int .i64 16, .int .i64 2, .string T.name, .slice (some ⟨g, off, none⟩) 3 cap] 30))
  have HN := hid_mk (Pst.node hbuf (.int .i64 16) (.int .i64 2) (.string T.name) (.slice (some ⟨g, off, none⟩) 3 cap) 30)
  have HC0 := hid_mk (fun Y W (h : Pst ob own (w.alloc (.cells #[.int .i64 16, .int .i64 2, .string T.name, .slice (some ⟨g, off, none⟩) 3 cap] 30)) Y W) => hc0 W (h.belowB hbuf))
  have HR0 := hid_mk (row_alloc hbuf hr0 (.cells #[.int .i64 16, .int .i64 2, .string T.name, .slice (some ⟨g, off, none⟩) 3 cap] 30))
  have HI0 := hid_mk (ex_all (T.kids 0))
  have HF0 := hid_mk (Nd.fine_kid hf hlt0)
  have HE0 := hid_mk hE0
  have HC1 := hid_mk (fun Y W (h : Pst ob own (w.alloc (.cells #[.int .i64 16, .int .i64 2, .string T.name, .slice (some ⟨g, off, none⟩) 3 cap] 30)) Y W) => hc1 W (h.belowB hbuf))
  have HR1 := hid_mk (row_alloc hbuf hr1 (.cells #[.int .i64 16, .int .i64 2, .string T.name, .slice (some ⟨g, off, none⟩) 3 cap] 30))
  have HI1 := hid_mk (ex_all (T.kids 1))
  have HF1 := hid_mk (Nd.fine_kid hf hlt1)
  have HE1 := hid_mk hE1
  have HB := hid_mk hb
  clear hb hr hf hbuf hk hval hnum h0 htx hc0 hr0 hE0 hlt0 hc1 hr1 hE1 hlt1 hkid hcap
  obtain ⟨c00, c01, c02, c03⟩ := HC0.out _ _ HP.out
  obtain ⟨c10, c11, c12, c13⟩ := HC1.out _ _ HP.out
  generalize T.kids 0 = K0 at *
  generalize T.kids 1 = K1 at *
  generalize T.name = ts at *
  go_enter Tryz.func61, Tryz.ntmps61
  go_wp2_with (first
    | (go_at_call 19; refine (HP.out.add _ (by have := HB.out; simp at this ⊢; omega)).mono ?_; rintro e w2 ⟨rfl, hp⟩; obtain ⟨b0, b1, b2, b3⟩ := HN.out _ _ hp; obtain ⟨c00, c01, c02, c03⟩ := HC0.out _ _ hp; obtain ⟨c10, c11, c12, c13⟩ := HC1.out _ _ hp; have HP := hid_mk hp; clear hp)
    | (go_at_call_of 59 u0; refine (HP.out.expr HI0.out 1 u0 HF0.out HR0.out HE0.out (by decide) (by have := HB.out; simp at this ⊢; omega)).mono ?_; rintro e w2 ⟨rfl, hp⟩; obtain ⟨b0, b1, b2, b3⟩ := HN.out _ _ hp; obtain ⟨c00, c01, c02, c03⟩ := HC0.out _ _ hp; obtain ⟨c10, c11, c12, c13⟩ := HC1.out _ _ hp; have HP := hid_mk hp; clear hp)
    | (go_at_call_of 59 u1; refine (HP.out.expr HI1.out 1 u1 HF1.out HR1.out HE1.out (by decide) (by have := HB.out; simp at this ⊢; omega)).mono ?_; rintro e w2 ⟨rfl, hp⟩; obtain ⟨b0, b1, b2, b3⟩ := HN.out _ _ hp; obtain ⟨c00, c01, c02, c03⟩ := HC0.out _ _ hp; obtain ⟨c10, c11, c12, c13⟩ := HC1.out _ _ hp; have HP := hid_mk hp; clear hp))
  go_end0
  exact HP.out.addsB (by simp)

theorem cl_any (T : Nd) (h : T.cOk = true) : ClC T := by
  obtain ⟨hk, h3, _⟩ := cs_ok h
  rcases h3 with ⟨a, b⟩ | ⟨a, b, c⟩ | ⟨a, b, c, d⟩
  · exact cl_0 T hk a b
  · cases he : T.name.toList.isEmpty
    · exact cl_1b T hk a b he c
    · exact cl_1a T hk a b he c
  · exact cl_2 T hk a b c d
theorem cs_text (T : Nd) (hk : T.kind = 16) (d : Nat) : (prN T).cs d = tabsT d ++ (clauseT T.num T.name.data.toList (fun i => prN (T.kids i)) ++ ([58, 10] ++ (prN (T.kids (T.len - 1))).sts (d + 1))) := by
  cases T with
  | nil => simp [Nd.kind] at hk
  | mk => rfl

set_option maxHeartbeats 4000000 in
set_option maxRecDepth 100000 in
theorem st_15 (T : Nd) (hk : T.kind = 15) (ih : ∀ i, i < T.len → ∀ k, k < (T.kids i).len → StsC ((T.kids i).kids k)) : SmC T := by
  intro ob own X d w v hbuf hf hr hok hb
  have hn := T.fine_len hf
  rw [st_text_15 T hk] at hb ⊢
  have HE := hid_mk (st_ok_15 hk hok)
  obtain ⟨a, cap, rfl, hcap, _⟩ := row_eq.1 hr
  have hd : d ≤ 1099511627776 := by have := hb; simp [tabsT] at this; omega
  unfold Nd.val
  rw [hk]
  have HP := hid_mk (Pst.startB hbuf (.cells #[.int .i64 15, .int .i64 T.num, .string T.name, .slice a T.len cap] 30))
  have HN := hid_mk (Pst.node hbuf (.int .i64 15) (.int .i64 T.num) (.string T.name) (.slice a T.len cap) 30)
  have HR := hid_mk (row_alloc hbuf hr (.cells #[.int .i64 15, .int .i64 T.num, .string T.name, .slice a T.len cap] 30))
  have HI := hid_mk ih
  have HF := hid_mk hf
  have HB := hid_mk hb
  clear hb hr hf hbuf ih hcap hok hk
  generalize hF : (fun i => (prN (T.kids i)).cs d) = F at *
  have HFE := hid_mk hF
  have HFL := hid_mk (fun i (h : i < T.len) => catTo_at F h)
  clear hF
  generalize T.name = ts at *
  generalize T.num = tn at *
  go_enter Tryz.func46, Tryz.ntmps46
  go_wp2_with (first
    | (go_at_call 19; refine (HP.out.add _ (by have := HB.out; simp at this ⊢; omega)).mono ?_; rintro e w2 ⟨rfl, hp⟩; obtain ⟨b0, b1, b2, b3⟩ := HN.out _ _ hp; have HP := hid_mk hp; clear hp))
  go_loopw [6] (fun i wr => ∃ j : Nat, j ≤ T.len ∧ i = .int .i64 j ∧ Hid (Pst ob own (w.alloc (.cells #[.int .i64 15, .int .i64 tn, .string ts, .slice a T.len cap] 30)) (X ++ [115, 101, 108, 101, 99, 116, 32, 123, 10] ++ catTo F j) wr)) (fun i _ => T.len - (intOf i).toNat)
  case atStart => exact ⟨0, by omega, rfl, hid_mk (by simpa [catTo] using HP.out)⟩
  case round =>
    obtain ⟨j, hj, rfl, HP⟩ := hrel
    obtain ⟨b0, b1, b2, b3⟩ := HN.out _ _ HP.out
    by_cases hlt : j < T.len
    · obtain ⟨g, off, cap', hv, hg, hcap, hk⟩ := kid_at HR.out (by omega)
      obtain ⟨rfl, rfl⟩ : a = some ⟨g, off, none⟩ ∧ cap = cap' := by injection hv with e1 e2 e3; exact ⟨e1, e3⟩
      obtain ⟨u, hc, hru⟩ := hk j hlt
      have hcl := HFL.out j hlt
      have hcok := HE.out j hlt
      obtain ⟨hk16, h3, hkl, hsl⟩ := cs_ok hcok
      have hL : (T.kids j).len = 1 ∨ (T.kids j).len = 2 ∨ (T.kids j).len = 3 := by rcases h3 with h | h | h <;> omega
      have HIJ := hid_mk (HI.out j hlt ((T.kids j).len - 1) (by omega))
      have hfj := Nd.fine_kid HF.out hlt
      have HFJ := hid_mk hfj
      have HFG := hid_mk (Nd.fine_kid hfj (i := (T.kids j).len - 1) (by omega))
      have HSG := hid_mk (st_ok_4 hkl hsl)
      have HCJ := hid_mk (cl_any _ hcok)
      have HFJE : Hid (F j = tabsT d ++ (clauseT (T.kids j).num (T.kids j).name.data.toList (fun i => prN ((T.kids j).kids i)) ++ ([58, 10] ++ (prN ((T.kids j).kids ((T.kids j).len - 1))).sts (d + 1)))) := by
        rw [← HFE.out]; exact cs_text _ hk16 d
      have hcl2 : (catTo F j).length + (d + ((clauseT (T.kids j).num (T.kids j).name.data.toList (fun i => prN ((T.kids j).kids i))).length + (2 + ((prN ((T.kids j).kids ((T.kids j).len - 1))).sts (d + 1)).length))) ≤ (catTo F T.len).length := by
        rw [HFJE.out] at hcl; simp only [List.length_append, tabsT, List.length_replicate, List.length_cons, List.length_nil] at hcl; omega
      have HX : Hid (catTo F (j + 1) = catTo F j ++ F j) := rfl
      rw [HFJE.out] at HX
      obtain ⟨g2, off2, cap2, rfl, hg2, _, hk2⟩ := kid_at hru (by omega)
      obtain ⟨u2, hc2, hru2⟩ := hk2 ((T.kids j).len - 1) (by omega)
      have HC := hid_mk hc
      have HC2 := hid_mk hc2
      have HRU := hid_mk hru
      have HRG := hid_mk hru2
      clear hk hc hru hcl hv hcap hk2 hc2 hru2 hcok hk16 h3 hkl hsl hfj HFJE
      generalize T.kids j = K at *
      generalize hclT : clauseT K.num K.name.data.toList (fun i => prN (K.kids i)) = CT at *
      have HCT := hid_mk hclT
      clear hclT
      have HCV : Hid (∀ Y W, Pst ob own (w.alloc (.cells #[.int .i64 15, .int .i64 tn, .string ts, .slice (some ⟨g, off, none⟩) T.len cap] 30)) Y W → Y.length + CT.length ≤ 1099511627776 → Calls Tryz.prog 61 #[.pointer (some ⟨ob, 0, none⟩), .agg #[.int .i64 K.kind, .int .i64 K.num, .string K.name, .slice (some ⟨g2, off2, none⟩) K.len cap2]] W fun e w' => e = .returned (.tuple #[]) ∧ Pst ob own (w.alloc (.cells #[.int .i64 15, .int .i64 tn, .string ts, .slice (some ⟨g, off, none⟩) T.len cap] 30)) (Y ++ CT) w') := by
        intro Y W h hb
        rw [← HCT.out] at hb ⊢
        exact h.clause HCJ.out _ HFJ.out HRU.out hb
      clear HCT HCJ
      generalize K.kids (K.len - 1) = G at *
      generalize K.len = L at *
      have hw0 : IntKind.i64.wrap 0 = 0 := rfl
      have hw1 : IntKind.i64.wrap 1 = 1 := rfl
      have hw2 : IntKind.i64.wrap 2 = 2 := rfl
      have hwd : IntKind.i64.wrap ((d : Int) + 1) = (d : Int) + 1 := by simp [IntKind.wrap, IntKind.bits, IntKind.signed]; omega
      rcases hL with rfl | rfl | rfl
      all_goals simp only [Nat.reduceSub, Nat.zero_mul, Nat.add_zero, Nat.one_mul, Nat.reduceMul] at HC2
      all_goals go_wp2_with (first
        | (go_at_call 30; refine (HP.out.tabs d (by have := HB.out; simp at this ⊢; omega)).mono ?_; rintro e w2 ⟨rfl, hp⟩; obtain ⟨b0, b1, b2, b3⟩ := HN.out _ _ hp; obtain ⟨c0, c1, c2, c3⟩ := HC.out _ hp.below; obtain ⟨d0, d1, d2, d3⟩ := HC2.out _ hp.below; have HP := hid_mk hp; clear hp)
        | (go_at_call 19; refine (HP.out.add _ (by have := HB.out; simp [tabsT] at this ⊢; omega)).mono ?_; rintro e w2 ⟨rfl, hp⟩; obtain ⟨b0, b1, b2, b3⟩ := HN.out _ _ hp; obtain ⟨c0, c1, c2, c3⟩ := HC.out _ hp.below; obtain ⟨d0, d1, d2, d3⟩ := HC2.out _ hp.below; have HP := hid_mk hp; clear hp)
        | (go_at_call 61; refine (HCV.out _ _ HP.out (by have := HB.out; simp [tabsT] at this ⊢; omega)).mono ?_; rintro e w2 ⟨rfl, hp⟩; obtain ⟨b0, b1, b2, b3⟩ := HN.out _ _ hp; obtain ⟨c0, c1, c2, c3⟩ := HC.out _ hp.below; obtain ⟨d0, d1, d2, d3⟩ := HC2.out _ hp.below; have HP := hid_mk hp; clear hp))
      all_goals refine wp_region_still_tail 19 (by kernel_rfl) (by kernel_rfl) ?_
      all_goals change wpStill _ _ (World.drew _) (fun a' => wpList _ _ _ _ a' (World.drew _)) _ _
      all_goals simp only [List.take_succ_cons, List.take_zero, List.drop_succ_cons, List.drop_zero]
      all_goals repeat still_step
      all_goals refine wpStill_nil ?_
      all_goals go_wp2_with (go_at_call 29; refine (HP.out.drew.sts HIJ.out (d + 1) u2 HFG.out HRG.out HSG.out (by have := HB.out; simp [tabsT] at this ⊢; omega)).mono ?_; rintro e w2 ⟨rfl, hp⟩; obtain ⟨b0, b1, b2, b3⟩ := HN.out _ _ hp; have HP := hid_mk hp; clear hp)
      all_goals exact ⟨⟨j + 1, by omega, by go_num, hid_mk (by rw [HX.out]; simpa using HP.out)⟩, by simp [intOf]; omega⟩
    · obtain rfl : j = T.len := by omega
      go_wp2_with (first
        | (go_at_call 30; refine (HP.out.tabs d (by have := HB.out; simp [tabsT] at this ⊢; omega)).mono ?_; rintro e w2 ⟨rfl, hp⟩; have HP := hid_mk hp; clear hp)
        | (go_at_call 19; refine (HP.out.add _ (by have := HB.out; simp [tabsT] at this ⊢; omega)).mono ?_; rintro e w2 ⟨rfl, hp⟩; have HP := hid_mk hp; clear hp))
      go_end0
      exact HP.out.addsB (by simp)

/-- Every statement. -/
theorem pr_all (T : Nd) : PrC T := by
  have step : ∀ T : Nd, (∀ i, i < T.len → PrC (T.kids i)) → PrC T := by
    intro T ih
    have hsts : StsC T := stmts_of T fun i hi => (ih i hi).sm
    have hbr : T.kind = 10 → BrC T := by
      intro hk ob own X d w v hbuf hf hr hok hb
      obtain ⟨hl, _, _, h2⟩ := st_ok_10 hk hok
      rcases hl with hl | hl
      · exact br_10a T hk hl (ih 1 (by omega)).sts ob own X d w v hbuf hf hr hok hb
      · rcases (h2 hl).1 with h | h
        · exact br_10c T hk hl h (ih 1 (by omega)).sts (ih 2 (by omega)).sts ob own X d w v hbuf hf hr hok hb
        · exact br_10b T hk hl h (ih 1 (by omega)).sts ((ih 2 (by omega)).br h) ob own X d w v hbuf hf hr hok hb
    refine ⟨?_, hsts, hbr, fun i hi => (ih i hi).sts⟩
    intro ob own X d w v hbuf hf hr hok hb
    by_cases h4 : T.kind = 4
    · exact st_4 T h4 hsts ob own X d w v hbuf hf hr hok hb
    by_cases h5 : T.kind = 5
    · exact st_5 T h5 ob own X d w v hbuf hf hr hok hb
    by_cases h6 : T.kind = 6
    · exact st_6 T h6 ob own X d w v hbuf hf hr hok hb
    by_cases h7 : T.kind = 7
    · exact st_7 T h7 ob own X d w v hbuf hf hr hok hb
    by_cases h8 : T.kind = 8
    · exact st_8 T h8 ob own X d w v hbuf hf hr hok hb
    by_cases h9 : T.kind = 9
    · exact st_9 T h9 ob own X d w v hbuf hf hr hok hb
    by_cases h10 : T.kind = 10
    · exact st_10 T h10 (hbr h10) ob own X d w v hbuf hf hr hok hb
    by_cases h11 : T.kind = 11
    · rcases st_ok_11 h11 hok with h | h
      · exact st_11a T h11 h.1 (ih 0 (by omega)).sts ob own X d w v hbuf hf hr hok hb
      · exact st_11b T h11 h.1 (ih 1 (by omega)).sts ob own X d w v hbuf hf hr hok hb
    by_cases h12 : T.kind = 12
    · by_cases h0 : T.len = 0
      · exact st_12a T h12 h0 ob own X d w v hbuf hf hr hok hb
      · exact st_12b T h12 h0 ob own X d w v hbuf hf hr hok hb
    by_cases h13 : T.kind = 13
    · exact st_13 T h13 ob own X d w v hbuf hf hr hok hb
    by_cases h14 : T.kind = 14
    · exact st_14 T h14 ob own X d w v hbuf hf hr hok hb
    by_cases h15 : T.kind = 15
    · exact st_15 T h15 (fun i hi => (ih i hi).gr) ob own X d w v hbuf hf hr hok hb
    by_cases h17 : T.kind = 17
    · exact st_17 T h17 ob own X d w v hbuf hf hr hok hb
    by_cases h18 : T.kind = 18
    · exact st_18 T h18 ob own X d w v hbuf hf hr hok hb
    by_cases h19 : T.kind = 19
    · exact st_19 T h19 ob own X d w v hbuf hf hr hok hb
    by_cases h20 : T.kind = 20
    · exact st_20 T h20 ob own X d w v hbuf hf hr hok hb
    by_cases h21 : T.kind = 21
    · exact st_21 T h21 ob own X d w v hbuf hf hr hok hb
    rw [sOk_eq] at hok
    simp [stmtB, h4, h5, h6, h7, h8, h9, h10, h11, h12, h13, h14, h15, h17, h18, h19, h20, h21] at hok
  induction T with
  | nil => exact step .nil fun i hi => absurd hi (Nat.not_lt_zero _)
  | mk k n s len kids ih => exact step _ fun i _ => ih i

end Go.Proofs.YtacamenjijlemaaGreatDoor
