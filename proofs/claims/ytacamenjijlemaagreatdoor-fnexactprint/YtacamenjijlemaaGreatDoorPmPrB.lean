/- The specification's printer of expressions: a theorem a kind. -/
import Derived.Test.YtacamenjijlemaaGreatDoorPmPrA
import Derived.WalkSpells
import Derived.WalkSmall
import Derived.Test.YtacamenjijlemaaGreatDoorPmSpA
set_option linter.unusedVariables false
namespace Go.Proofs.YtacamenjijlemaaGreatDoor
open Go.RowKit

theorem ex_text_24 (T : Nd) (hk : T.kind = 24) (l : Nat) : (prN T).ex l = T.name.data.toList := by
  cases T with
  | nil => simp [Nd.kind] at hk
  | mk k n s len kids => obtain rfl : k = 24 := hk; rfl
theorem ex_text_25 (T : Nd) (hk : T.kind = 25) (l : Nat) : (prN T).ex l = T.name.data.toList ++ 40 :: (catTo (fun i => (if i = 0 then [] else [44, 32]) ++ (prN (T.kids i)).ex 1) T.len ++ [41]) := by
  cases T with
  | nil => simp [Nd.kind] at hk
  | mk k n s len kids => obtain rfl : k = 25 := hk; rfl
theorem ex_text_26 (T : Nd) (hk : T.kind = 26) (l : Nat) : (prN T).ex l = [109, 97, 107, 101, 40, 99, 104, 97, 110, 32, 105, 110, 116] ++ ((if T.len = 0 then [] else [44, 32] ++ (prN (T.kids 0)).ex 1) ++ [41]) := by
  cases T with
  | nil => simp [Nd.kind] at hk
  | mk k n s len kids => obtain rfl : k = 26 := hk; rfl
theorem ex_ok_25 {T : Nd} (hk : T.kind = 25) (h : T.eOk = true) : ∀ i, i < T.len → (T.kids i).eOk = true := by
  rw [eOk_eq, hk] at h
  simp [exprB] at h
  exact allTo_iff.1 h.2.2
theorem ex_ok_26 {T : Nd} (hk : T.kind = 26) (h : T.eOk = true) : T.len < 2 ∧ ∀ i, i < T.len → (T.kids i).eOk = true := by
  rw [eOk_eq, hk] at h
  simp [exprB] at h
  exact ⟨h.2.1, allTo_iff.1 h.2.2⟩

set_option maxHeartbeats 1000000 in
set_option maxRecDepth 100000 in
theorem ex_24 (T : Nd) (hk : T.kind = 24) : ExC T := by
  intro ob own X l w v hbuf hf hr hok hl hb
  obtain ⟨a, cap, rfl, _⟩ := row_eq.1 hr
  rw [ex_text_24 T hk] at hb ⊢
  have HB := hid_mk hb
  unfold Nd.val
  rw [hk]
  have HP := hid_mk (Pst.startB hbuf (.cells #[.int .i64 24, .int .i64 T.num, .string T.name, .slice a T.len cap] 30))
  clear hb hr hf hok hbuf hk
  generalize T.name = ts at *
  generalize T.num = tn at *
  go_enter Tryz.func59, Tryz.ntmps59
  go_wp2_with (go_at_call 19; refine (HP.out.add _ HB.out).mono ?_; rintro e w1 ⟨rfl, hp⟩; have HP := hid_mk hp; clear hp)
  go_end0
  exact HP.out.addsB rfl

set_option maxHeartbeats 4000000 in
set_option maxRecDepth 100000 in
theorem ex_25 (T : Nd) (hk : T.kind = 25) (ih : ∀ i, i < T.len → ExC (T.kids i)) : ExC T := by
  intro ob own X l w v hbuf hf hr hok hl hb
  have hn := T.fine_len hf
  obtain ⟨a, cap, rfl, hcap, _⟩ := row_eq.1 hr
  rw [ex_text_25 T hk] at hb ⊢
  have HE := hid_mk (ex_ok_25 hk hok)
  unfold Nd.val
  rw [hk]
  have HP := hid_mk (Pst.startB hbuf (.cells #[.int .i64 25, .int .i64 T.num, .string T.name, .slice a T.len cap] 30))
  have HN := hid_mk (Pst.node hbuf (.int .i64 25) (.int .i64 T.num) (.string T.name) (.slice a T.len cap) 30)
  have HR := hid_mk (row_alloc hbuf hr (.cells #[.int .i64 25, .int .i64 T.num, .string T.name, .slice a T.len cap] 30))
  have HI := hid_mk ih
  have HF := hid_mk hf
  have hs : T.name.size ≤ 1099511627776 := by
    have e : T.name.data.toList.length = T.name.size := rfl
    simp only [List.length_append] at hb; omega
  have HB : Hid (X.length + (T.name.size + (1 + ((catTo (fun i => (if i = 0 then [] else [44, 32]) ++ (prN (T.kids i)).ex 1) T.len).length + 1))) ≤ 1099511627776) := by
    have e : T.name.data.toList.length = T.name.size := rfl
    unfold Hid; simp only [List.length_append, List.length_cons, List.length_nil] at hb; omega
  clear hb hr hf hok hbuf hk ih hcap
  generalize hF : (fun i => (if i = 0 then [] else [44, 32]) ++ (prN (T.kids i)).ex 1) = F at *
  have HFE := hid_mk hF
  have HFL := hid_mk (fun i (h : i < T.len) => catTo_at F h)
  clear hF
  generalize T.name = ts at *
  generalize T.num = tn at *
  go_enter Tryz.func59, Tryz.ntmps59
  go_wp2_with (go_at_call 19; refine (HP.out.add _ (by have := HB.out; simp; omega)).mono ?_; rintro e w1 ⟨rfl, hp⟩; obtain ⟨b0, b1, b2, b3⟩ := HN.out _ _ hp; have HP := hid_mk hp; clear hp)
  go_loopw [6] (fun i wr => ∃ j : Nat, j ≤ T.len ∧ i = .int .i64 j ∧ Hid (Pst ob own (w.alloc (.cells #[.int .i64 25, .int .i64 tn, .string ts, .slice a T.len cap] 30)) (X ++ (ts ++ ⟨#[40]⟩ : ByteArray).data.toList ++ catTo F j) wr)) (fun i _ => T.len - (intOf i).toNat)
  case atStart => exact ⟨0, by omega, rfl, hid_mk (by simpa [catTo] using HP.out)⟩
  case round =>
    obtain ⟨j, hj, rfl, HP⟩ := hrel
    obtain ⟨b0, b1, b2, b3⟩ := HN.out _ _ HP.out
    by_cases hlt : j < T.len
    · obtain ⟨g, off, cap', hv, hg, hcap, hk⟩ := kid_at HR.out (by omega)
      obtain ⟨rfl, rfl⟩ : a = some ⟨g, off, none⟩ ∧ cap = cap' := by injection hv with e1 e2 e3; exact ⟨e1, e3⟩
      obtain ⟨u, hc, hru⟩ := hk j hlt
      obtain ⟨c0, c1, c2, c3⟩ := hc _ HP.out.below
      have HC := hid_mk hc
      have HRU := hid_mk hru
      have hcl := HFL.out j hlt
      have HIJ := hid_mk (HI.out j hlt)
      have HFJ := hid_mk (Nd.fine_kid HF.out hlt)
      have HEJ := hid_mk (HE.out j hlt)
      have HFJE : Hid (F j = (if j = 0 then [] else [44, 32]) ++ (prN (T.kids j)).ex 1) := by rw [← HFE.out]; rfl
      have hcl2 : (catTo F j).length + ((if j = 0 then [] else [44, 32] : List UInt8).length + ((prN (T.kids j)).ex 1).length) ≤ (catTo F T.len).length := by rw [HFJE.out, List.length_append] at hcl; exact hcl
      clear hk hc hru hcl hv hcap
      generalize T.kids j = K at *
      have HX : Hid (catTo F (j + 1) = catTo F j ++ ((if j = 0 then [] else [44, 32]) ++ (prN K).ex 1)) := by unfold Hid; rw [← HFJE.out]; rfl
      by_cases hj0 : 0 < j
      · have hjn : j ≠ 0 := by omega
        go_wp2_with (first
          | (go_at_call 19; refine (HP.out.add _ (by have := HB.out; simp [hjn] at hcl2 ⊢; omega)).mono ?_; rintro e w2 ⟨rfl, hp⟩; obtain ⟨b0, b1, b2, b3⟩ := HN.out _ _ hp; obtain ⟨c0, c1, c2, c3⟩ := HC.out _ hp.below; have HP := hid_mk hp; clear hp)
          | (go_at_call 59; refine (HP.out.expr HIJ.out 1 u HFJ.out HRU.out HEJ.out (by decide) (by have := HB.out; simp [hjn] at hcl2 ⊢; omega)).mono ?_; rintro e w2 ⟨rfl, hp⟩; obtain ⟨b0, b1, b2, b3⟩ := HN.out _ _ hp; have HP := hid_mk hp; clear hp))
        exact ⟨⟨j + 1, by omega, by go_num, hid_mk (by rw [HX.out, if_neg hjn]; simpa using HP.out)⟩, by simp [intOf]; omega⟩
      · obtain rfl : j = 0 := by omega
        simp only [Nat.zero_mul, Nat.add_zero] at c0 c1 c2 c3
        go_wp2_with (first
          | (go_at_call 59; refine (HP.out.expr HIJ.out 1 u HFJ.out HRU.out HEJ.out (by decide) (by have := HB.out; simp at hcl2 ⊢; omega)).mono ?_; rintro e w2 ⟨rfl, hp⟩; obtain ⟨b0, b1, b2, b3⟩ := HN.out _ _ hp; have HP := hid_mk hp; clear hp))
        exact ⟨⟨1, by omega, by go_num, hid_mk (by rw [HX.out]; simpa using HP.out)⟩, by simp [intOf]; omega⟩
    · obtain rfl : j = T.len := by omega
      go_wp2_with (first
        | (go_at_call 19; refine (HP.out.add _ (by have := HB.out; simp; omega)).mono ?_; rintro e w2 ⟨rfl, hp⟩; have HP := hid_mk hp; clear hp))
      go_end0
      exact HP.out.addsB (by simp)
end Go.Proofs.YtacamenjijlemaaGreatDoor

/- The specification's printer: expressions: a number, a word, a sign of one side. -/
namespace Go.Proofs.YtacamenjijlemaaGreatDoor
open Go.RowKit
theorem ex_text_22 (T : Nd) (hk : T.kind = 22) (l : Nat) : (prN T).ex l = digF 20 T.num.toNat := by
  cases T with
  | nil => simp [Nd.kind] at hk
  | mk k n s len kids => obtain rfl : k = 22 := hk; rfl
theorem ex_text_23 (T : Nd) (hk : T.kind = 23) (l : Nat) : (prN T).ex l = (if T.num = 0 then [102, 97, 108, 115, 101] else [116, 114, 117, 101]) := by
  cases T with
  | nil => simp [Nd.kind] at hk
  | mk k n s len kids => obtain rfl : k = 23 := hk; rfl
theorem ex_text_27 (T : Nd) (hk : T.kind = 27) (l : Nat) : (prN T).ex l = T.name.data.toList ++ (if T.name.data.toList = [45] ∧ (T.kids 0).kind = 27 ∧ (T.kids 0).name.data.toList = [45] then 40 :: ((prN (T.kids 0)).ex 1 ++ [41]) else (prN (T.kids 0)).ex 6) := by
  cases T with
  | nil => simp [Nd.kind] at hk
  | mk k n s len kids => obtain rfl : k = 27 := hk; rfl
theorem ex_text_29 (T : Nd) (hk : T.kind = 29) (l : Nat) : (prN T).ex l = [60, 45] ++ (prN (T.kids 0)).ex 6 := by
  cases T with
  | nil => simp [Nd.kind] at hk
  | mk k n s len kids => obtain rfl : k = 29 := hk; rfl
theorem ex_text_28 (T : Nd) (hk : T.kind = 28) (l : Nat) : (prN T).ex l = parT (decide (lvl T.name < l)) ((prN (T.kids 0)).ex (lvl T.name) ++ (32 :: (T.name.data.toList ++ 32 :: (prN (T.kids 1)).ex (lvl T.name + 1)))) := by
  cases T with
  | nil => simp [Nd.kind] at hk
  | mk k n s len kids => obtain rfl : k = 28 := hk; rfl
theorem one_e {e st : Nat → Bool} {kk : Nat → Int} {len : Nat} (h : sortsB e st kk len ⟨#[101]⟩ = true) : len = 1 ∧ e 0 = true := by
  unfold sortsB at h
  simp only [Bool.and_eq_true, decide_eq_true_eq] at h
  refine ⟨h.1, ?_⟩
  have := allTo_iff.1 h.2 0 (by decide)
  exact this
theorem two_e {e st : Nat → Bool} {kk : Nat → Int} {len : Nat} (h : sortsB e st kk len ⟨#[101, 101]⟩ = true) : len = 2 ∧ e 0 = true ∧ e 1 = true := by
  unfold sortsB at h
  simp only [Bool.and_eq_true, decide_eq_true_eq] at h
  exact ⟨h.1, allTo_iff.1 h.2 0 (by decide), allTo_iff.1 h.2 1 (by decide)⟩
theorem ex_ok_22 {T : Nd} (hk : T.kind = 22) (h : T.eOk = true) : 0 ≤ T.num ∧ T.num ≤ 999999999999999999 := by
  rw [eOk_eq, hk] at h
  simp [exprB] at h
  omega
theorem ex_ok_23 {T : Nd} (hk : T.kind = 23) (h : T.eOk = true) : T.num = 0 ∨ T.num = 1 := by
  rw [eOk_eq, hk] at h
  simp [exprB] at h
  exact h.2.1
theorem ex_ok_27 {T : Nd} (hk : T.kind = 27) (h : T.eOk = true) : T.len = 1 ∧ (T.kids 0).eOk = true := by
  rw [eOk_eq, hk] at h
  simp [exprB] at h
  exact one_e h.2.2
theorem ex_ok_29 {T : Nd} (hk : T.kind = 29) (h : T.eOk = true) : T.len = 1 ∧ (T.kids 0).eOk = true := by
  rw [eOk_eq, hk] at h
  simp [exprB] at h
  exact one_e h.2
theorem ex_ok_28 {T : Nd} (hk : T.kind = 28) (h : T.eOk = true) : 0 < lvl T.name ∧ T.len = 2 ∧ (T.kids 0).eOk = true ∧ (T.kids 1).eOk = true := by
  rw [eOk_eq, hk] at h
  simp [exprB] at h
  exact ⟨h.2.1, two_e h.2.2⟩
theorem lvl_le (s : ByteArray) : lvl s ≤ 5 := by unfold lvl; repeat' split
                                                 all_goals omega

set_option maxHeartbeats 4000000 in
set_option maxRecDepth 100000 in
theorem ex_22 (T : Nd) (hk : T.kind = 22) : ExC T := by
  intro ob own X l w v hbuf hf hr hok hl hb
  have hn := T.fine_len hf
  rw [ex_text_22 T hk] at hb ⊢
  obtain ⟨h0, h18⟩ := ex_ok_22 hk hok
  obtain ⟨m, hm⟩ : ∃ m : Nat, T.num = (m : Int) := ⟨T.num.toNat, by omega⟩
  rw [hm] at hb ⊢
  have hm18 : m ≤ 999999999999999999 := by omega
  obtain ⟨a, cap, rfl, _⟩ := row_eq.1 hr
  unfold Nd.val
  rw [hk, hm]
  have HP := hid_mk (Pst.startB hbuf (.cells #[.int .i64 22, .int .i64 (m : Int), .string T.name, .slice a T.len cap] 30))
  have HN := hid_mk (Pst.node hbuf (.int .i64 22) (.int .i64 (m : Int)) (.string T.name) (.slice a T.len cap) 30)
  have HB := hid_mk hb
  clear hb hr hf hok hbuf hk
  have HD := hid_mk (fun W : World => dig_any m W hm18)
  clear h0 h18 hm
  simp only [Int.toNat_natCast] at HB ⊢
  generalize T.name = ts at *
  generalize digF 20 m = dg at *
  go_enter Tryz.func59, Tryz.ntmps59
  go_wp2_with (first
    | (go_at_call 74; refine (HD.out _).mono ?_; rintro e w2 ⟨rfl, hb⟩; have hp := HP.out.calm hb; have HP := hid_mk hp; clear hp hb)
    | (go_at_call 19; refine (HP.out.add _ HB.out).mono ?_; rintro e w2 ⟨rfl, hp⟩; have HP := hid_mk hp; clear hp))
  go_end0
  exact HP.out.addsB rfl

set_option maxHeartbeats 4000000 in
set_option maxRecDepth 100000 in
theorem ex_23 (T : Nd) (hk : T.kind = 23) : ExC T := by
  intro ob own X l w v hbuf hf hr hok hl hb
  have hn := T.fine_len hf
  rw [ex_text_23 T hk] at hb ⊢
  have hb2 := ex_ok_23 hk hok
  obtain ⟨a, cap, rfl, _⟩ := row_eq.1 hr
  unfold Nd.val
  rw [hk]
  have HP := hid_mk (Pst.startB hbuf (.cells #[.int .i64 23, .int .i64 T.num, .string T.name, .slice a T.len cap] 30))
  have HN := hid_mk (Pst.node hbuf (.int .i64 23) (.int .i64 T.num) (.string T.name) (.slice a T.len cap) 30)
  have HB := hid_mk hb
  clear hb hr hf hok hbuf hk
  generalize T.name = ts at *
  generalize T.num = tn at *
  rcases hb2 with rfl | rfl
  all_goals simp only [if_true, Int.reduceEq, if_false] at HB ⊢
  all_goals go_enter Tryz.func59, Tryz.ntmps59
  all_goals go_wp2_with (first
    | (go_at_call 19; refine ((HP.out.alloc _).add _ HB.out).mono ?_; rintro e w2 ⟨rfl, hp⟩; have HP := hid_mk hp; clear hp))
  all_goals go_end0
  all_goals exact HP.out.addsB rfl

set_option maxHeartbeats 4000000 in
set_option maxRecDepth 100000 in
theorem ex_29 (T : Nd) (hk : T.kind = 29) (ih : ∀ i, i < T.len → ExC (T.kids i)) : ExC T := by
  intro ob own X l w v hbuf hf hr hok hl hb
  have hn := T.fine_len hf
  rw [ex_text_29 T hk] at hb ⊢
  obtain ⟨hlen, hE0⟩ := ex_ok_29 hk hok
  have HE0 := hid_mk hE0
  obtain ⟨g, off, cap, rfl, hg, hcap, hkid⟩ := kid_at hr (by omega)
  obtain ⟨u0, hc0, hr0⟩ := hkid 0 (by omega)
  simp only [Nat.zero_mul, Nat.add_zero] at hc0
  have hlt0 : 0 < T.len := by omega
  unfold Nd.val
  rw [hk]
  have HP := hid_mk (Pst.startB hbuf (.cells #[.int .i64 29, .int .i64 T.num, .string T.name, .slice (some ⟨g, off, none⟩) T.len cap] 30))
  have HN := hid_mk (Pst.node hbuf (.int .i64 29) (.int .i64 T.num) (.string T.name) (.slice (some ⟨g, off, none⟩) T.len cap) 30)
  have HC0 := hid_mk (fun Y W (h : Pst ob own (w.alloc (.cells #[.int .i64 29, .int .i64 T.num, .string T.name, .slice (some ⟨g, off, none⟩) T.len cap] 30)) Y W) => hc0 W (h.belowB hbuf))
  have HR0 := hid_mk (row_alloc hbuf hr0 (.cells #[.int .i64 29, .int .i64 T.num, .string T.name, .slice (some ⟨g, off, none⟩) T.len cap] 30))
  have HI0 := hid_mk (ih 0 hlt0)
  have HF0 := hid_mk (Nd.fine_kid hf hlt0)
  have HB := hid_mk hb
  clear hlen hE0 ih hb hr hf hok hbuf hk hc0 hr0 hkid hcap
  generalize T.kids 0 = K0 at *
  generalize T.name = ts at *
  generalize T.num = tn at *
  go_enter Tryz.func59, Tryz.ntmps59
  go_wp2_with (first
    | (go_at_call 19; refine (HP.out.add _ (by have := HB.out; simp at this ⊢; omega)).mono ?_; rintro e w2 ⟨rfl, hp⟩; obtain ⟨b0, b1, b2, b3⟩ := HN.out _ _ hp; obtain ⟨c00, c01, c02, c03⟩ := HC0.out _ _ hp; have HP := hid_mk hp; clear hp)
    | (go_at_call_of 59 u0; refine (HP.out.expr HI0.out 6 u0 HF0.out HR0.out HE0.out (by decide) (by have := HB.out; simp at this ⊢; omega)).mono ?_; rintro e w2 ⟨rfl, hp⟩; obtain ⟨b0, b1, b2, b3⟩ := HN.out _ _ hp; obtain ⟨c00, c01, c02, c03⟩ := HC0.out _ _ hp; have HP := hid_mk hp; clear hp))
  go_end0
  exact HP.out.addsB (by simp)

set_option maxHeartbeats 4000000 in
set_option maxRecDepth 100000 in
theorem ex_27 (T : Nd) (hk : T.kind = 27) (ih : ∀ i, i < T.len → ExC (T.kids i)) : ExC T := by
  intro ob own X l w v hbuf hf hr hok hl hb
  have hn := T.fine_len hf
  rw [ex_text_27 T hk] at hb ⊢
  obtain ⟨hlen, hE0⟩ := ex_ok_27 hk hok
  have HE0 := hid_mk hE0
  obtain ⟨g, off, cap, rfl, hg, hcap, hkid⟩ := kid_at hr (by omega)
  obtain ⟨u0, hc0, hr0⟩ := hkid 0 (by omega)
  simp only [Nat.zero_mul, Nat.add_zero] at hc0
  have hlt0 : 0 < T.len := by omega
  unfold Nd.val
  rw [hk]
  have HP := hid_mk (Pst.startB hbuf (.cells #[.int .i64 27, .int .i64 T.num, .string T.name, .slice (some ⟨g, off, none⟩) T.len cap] 30))
  have HN := hid_mk (Pst.node hbuf (.int .i64 27) (.int .i64 T.num) (.string T.name) (.slice (some ⟨g, off, none⟩) T.len cap) 30)
  have HC0 := hid_mk (fun Y W (h : Pst ob own (w.alloc (.cells #[.int .i64 27, .int .i64 T.num, .string T.name, .slice (some ⟨g, off, none⟩) T.len cap] 30)) Y W) => hc0 W (h.belowB hbuf))
  have HR0 := hid_mk (row_alloc hbuf hr0 (.cells #[.int .i64 27, .int .i64 T.num, .string T.name, .slice (some ⟨g, off, none⟩) T.len cap] 30))
  have HI0 := hid_mk (ih 0 hlt0)
  have HF0 := hid_mk (Nd.fine_kid hf hlt0)
  have hs : T.name.size ≤ 1099511627776 := by
    have := hb
    simp at this
    omega
  have HB := hid_mk hb
  clear hlen hE0 ih hb hr hf hok hbuf hk hc0 hr0 hkid hcap
  generalize T.kids 0 = K0 at *
  generalize T.name = ts at *
  generalize T.num = tn at *
  simp only [← ByteArray.toList_eq] at HB ⊢
  have hcond : (ts.toList = [45] ∧ K0.kind = 27 ∧ K0.name.toList = [45]) ↔ ((ts.toList == [45]) && ((K0.kind == 27) && (K0.name.toList == [45]))) = true := by simp
  cases h1 : (ts.toList == [45])
  all_goals cases h2 : (K0.kind == 27)
  all_goals cases h3 : (K0.name.toList == [45])
  all_goals rw [h1, h2, h3] at hcond
  all_goals simp only [Bool.and_self, Bool.and_true, Bool.and_false, Bool.false_eq_true, iff_false] at hcond
  all_goals simp only [hcond, if_true, if_false] at HB ⊢
  all_goals clear hcond
  all_goals simp only [ByteArray.toList_eq] at HB ⊢
  all_goals go_enter Tryz.func59, Tryz.ntmps59
  case true.true.true =>
    go_wp2_with (first
      | (go_at_call 19; refine (HP.out.add _ (by have := HB.out; simp at this ⊢; omega)).mono ?_; rintro e w2 ⟨rfl, hp⟩; obtain ⟨b0, b1, b2, b3⟩ := HN.out _ _ hp; obtain ⟨c00, c01, c02, c03⟩ := HC0.out _ _ hp; have HP := hid_mk hp; clear hp)
      | (go_at_call_of 59 u0; refine (HP.out.expr HI0.out 1 u0 HF0.out HR0.out HE0.out (by decide) (by have := HB.out; simp at this ⊢; omega)).mono ?_; rintro e w2 ⟨rfl, hp⟩; obtain ⟨b0, b1, b2, b3⟩ := HN.out _ _ hp; obtain ⟨c00, c01, c02, c03⟩ := HC0.out _ _ hp; have HP := hid_mk hp; clear hp))
    go_end0
    exact HP.out.addsB (by simp)
  all_goals go_wp2_with (first
    | (go_at_call 19; refine (HP.out.add _ (by have := HB.out; simp at this ⊢; omega)).mono ?_; rintro e w2 ⟨rfl, hp⟩; obtain ⟨b0, b1, b2, b3⟩ := HN.out _ _ hp; obtain ⟨c00, c01, c02, c03⟩ := HC0.out _ _ hp; have HP := hid_mk hp; clear hp)
    | (go_at_call_of 59 u0; refine (HP.out.expr HI0.out 6 u0 HF0.out HR0.out HE0.out (by decide) (by have := HB.out; simp at this ⊢; omega)).mono ?_; rintro e w2 ⟨rfl, hp⟩; obtain ⟨b0, b1, b2, b3⟩ := HN.out _ _ hp; obtain ⟨c00, c01, c02, c03⟩ := HC0.out _ _ hp; have HP := hid_mk hp; clear hp))
  all_goals go_end0
  all_goals exact HP.out.addsB (by simp)

set_option maxHeartbeats 4000000 in
set_option maxRecDepth 100000 in
theorem ex_28 (T : Nd) (hk : T.kind = 28) (ih : ∀ i, i < T.len → ExC (T.kids i)) : ExC T := by
  intro ob own X l w v hbuf hf hr hok hl hb
  have hn := T.fine_len hf
  rw [ex_text_28 T hk] at hb ⊢
  obtain ⟨hlv, hlen, hE0, hE1⟩ := ex_ok_28 hk hok
  have hlv5 := lvl_le T.name
  have HE0 := hid_mk hE0
  have HE1 := hid_mk hE1
  obtain ⟨g, off, cap, rfl, hg, hcap, hkid⟩ := kid_at hr (by omega)
  obtain ⟨u0, hc0, hr0⟩ := hkid 0 (by omega)
  simp only [Nat.zero_mul, Nat.add_zero] at hc0
  have hlt0 : 0 < T.len := by omega
  obtain ⟨u1, hc1, hr1⟩ := hkid 1 (by omega)
  simp only [Nat.one_mul] at hc1
  have hlt1 : 1 < T.len := by omega
  unfold Nd.val
  rw [hk]
  have HP := hid_mk (Pst.startB hbuf (.cells #[.int .i64 28, .int .i64 T.num, .string T.name, .slice (some ⟨g, off, none⟩) T.len cap] 30))
  have HN := hid_mk (Pst.node hbuf (.int .i64 28) (.int .i64 T.num) (.string T.name) (.slice (some ⟨g, off, none⟩) T.len cap) 30)
  have HC0 := hid_mk (fun Y W (h : Pst ob own (w.alloc (.cells #[.int .i64 28, .int .i64 T.num, .string T.name, .slice (some ⟨g, off, none⟩) T.len cap] 30)) Y W) => hc0 W (h.belowB hbuf))
  have HR0 := hid_mk (row_alloc hbuf hr0 (.cells #[.int .i64 28, .int .i64 T.num, .string T.name, .slice (some ⟨g, off, none⟩) T.len cap] 30))
  have HI0 := hid_mk (ih 0 hlt0)
  have HF0 := hid_mk (Nd.fine_kid hf hlt0)
  have HC1 := hid_mk (fun Y W (h : Pst ob own (w.alloc (.cells #[.int .i64 28, .int .i64 T.num, .string T.name, .slice (some ⟨g, off, none⟩) T.len cap] 30)) Y W) => hc1 W (h.belowB hbuf))
  have HR1 := hid_mk (row_alloc hbuf hr1 (.cells #[.int .i64 28, .int .i64 T.num, .string T.name, .slice (some ⟨g, off, none⟩) T.len cap] 30))
  have HI1 := hid_mk (ih 1 hlt1)
  have HF1 := hid_mk (Nd.fine_kid hf hlt1)
  have HB := hid_mk hb
  have hs : T.name.size ≤ 1099511627776 := by
    have := hb
    unfold parT at this
    split at this <;> simp at this <;> omega
  have HL := hid_mk (fun W : World => lvl_any T.name W)
  clear hlen hE0 hE1 ih hb hr hf hok hbuf hk hc0 hr0 hc1 hr1 hkid hcap
  generalize T.kids 0 = K0 at *
  generalize T.kids 1 = K1 at *
  generalize T.name = ts at *
  generalize T.num = tn at *
  generalize lvl ts = lv at *
  by_cases hlt : lv < l
  all_goals simp only [hlt, decide_true, decide_false, parT, if_true, if_false, Bool.false_eq_true] at HB ⊢
  all_goals go_enter Tryz.func59, Tryz.ntmps59
  all_goals go_wp2_with (first
    | (go_at_call 73; refine (HL.out _).mono ?_; rintro e w2 ⟨rfl, hb⟩; have hp := HP.out.calm hb; obtain ⟨b0, b1, b2, b3⟩ := HN.out _ _ hp; obtain ⟨c00, c01, c02, c03⟩ := HC0.out _ _ hp; obtain ⟨c10, c11, c12, c13⟩ := HC1.out _ _ hp; have HP := hid_mk hp; clear hp hb)
    | (go_at_call 19; refine (HP.out.add _ (by have := HB.out; simp at this ⊢; omega)).mono ?_; rintro e w2 ⟨rfl, hp⟩; obtain ⟨b0, b1, b2, b3⟩ := HN.out _ _ hp; obtain ⟨c00, c01, c02, c03⟩ := HC0.out _ _ hp; obtain ⟨c10, c11, c12, c13⟩ := HC1.out _ _ hp; have HP := hid_mk hp; clear hp)
    | (go_at_call_of 59 u0; refine (HP.out.expr HI0.out lv u0 HF0.out HR0.out HE0.out (by omega) (by have := HB.out; simp at this ⊢; omega)).mono ?_; rintro e w2 ⟨rfl, hp⟩; obtain ⟨b0, b1, b2, b3⟩ := HN.out _ _ hp; obtain ⟨c00, c01, c02, c03⟩ := HC0.out _ _ hp; obtain ⟨c10, c11, c12, c13⟩ := HC1.out _ _ hp; have HP := hid_mk hp; clear hp)
    | (go_at_call_of 59 u1; refine (HP.out.expr HI1.out (lv + 1) u1 HF1.out HR1.out HE1.out (by omega) (by have := HB.out; simp at this ⊢; omega)).mono ?_; rintro e w2 ⟨rfl, hp⟩; obtain ⟨b0, b1, b2, b3⟩ := HN.out _ _ hp; obtain ⟨c00, c01, c02, c03⟩ := HC0.out _ _ hp; obtain ⟨c10, c11, c12, c13⟩ := HC1.out _ _ hp; have HP := hid_mk hp; clear hp))
  all_goals go_end0
  all_goals exact HP.out.addsB (by simp)

end Go.Proofs.YtacamenjijlemaaGreatDoor

/- The specification's printer: expressions: a channel; all of them. -/
namespace Go.Proofs.YtacamenjijlemaaGreatDoor
open Go.RowKit

set_option maxHeartbeats 4000000 in
set_option maxRecDepth 100000 in
theorem ex_26a (T : Nd) (hk : T.kind = 26) (h0 : T.len = 0) : ExC T := by
  intro ob own X l w v hbuf hf hr hok hl hb
  have hn := T.fine_len hf
  rw [ex_text_26 T hk] at hb ⊢
  obtain ⟨_, hE⟩ := ex_ok_26 hk hok
  rw [if_pos h0] at hb ⊢
  obtain ⟨a, cap, rfl, _⟩ := row_eq.1 hr
  unfold Nd.val
  rw [hk, h0]
  have HP := hid_mk (Pst.startB hbuf (.cells #[.int .i64 26, .int .i64 T.num, .string T.name, .slice a 0 cap] 30))
  have HN := hid_mk (Pst.node hbuf (.int .i64 26) (.int .i64 T.num) (.string T.name) (.slice a 0 cap) 30)
  have HB := hid_mk hb
  clear hE hb hr hf hok hbuf hk
  generalize T.name = ts at *
  generalize T.num = tn at *
  go_enter Tryz.func59, Tryz.ntmps59
  go_wp2_with (first
    | (go_at_call 19; refine (HP.out.add _ (by have := HB.out; simp at this ⊢; omega)).mono ?_; rintro e w2 ⟨rfl, hp⟩; obtain ⟨b0, b1, b2, b3⟩ := HN.out _ _ hp; have HP := hid_mk hp; clear hp))
  go_end0
  exact HP.out.addsB (by simp)

set_option maxHeartbeats 4000000 in
set_option maxRecDepth 100000 in
theorem ex_26b (T : Nd) (hk : T.kind = 26) (h0 : ¬ T.len = 0) (ih : ∀ i, i < T.len → ExC (T.kids i)) : ExC T := by
  intro ob own X l w v hbuf hf hr hok hl hb
  have hn := T.fine_len hf
  rw [ex_text_26 T hk] at hb ⊢
  obtain ⟨hl2, hE⟩ := ex_ok_26 hk hok
  have hlen : T.len = 1 := by omega
  rw [if_neg h0] at hb ⊢
  have HE0 := hid_mk (hE 0 (by omega))
  obtain ⟨g, off, cap, rfl, hg, hcap, hkid⟩ := kid_at hr (by omega)
  obtain ⟨u0, hc0, hr0⟩ := hkid 0 (by omega)
  simp only [Nat.zero_mul, Nat.add_zero] at hc0
  have hlt0 : 0 < T.len := by omega
  unfold Nd.val
  rw [hk]
  have HP := hid_mk (Pst.startB hbuf (.cells #[.int .i64 26, .int .i64 T.num, .string T.name, .slice (some ⟨g, off, none⟩) T.len cap] 30))
  have HN := hid_mk (Pst.node hbuf (.int .i64 26) (.int .i64 T.num) (.string T.name) (.slice (some ⟨g, off, none⟩) T.len cap) 30)
  have HC0 := hid_mk (fun Y W (h : Pst ob own (w.alloc (.cells #[.int .i64 26, .int .i64 T.num, .string T.name, .slice (some ⟨g, off, none⟩) T.len cap] 30)) Y W) => hc0 W (h.belowB hbuf))
  have HR0 := hid_mk (row_alloc hbuf hr0 (.cells #[.int .i64 26, .int .i64 T.num, .string T.name, .slice (some ⟨g, off, none⟩) T.len cap] 30))
  have HI0 := hid_mk (ih 0 hlt0)
  have HF0 := hid_mk (Nd.fine_kid hf hlt0)
  have HB := hid_mk hb
  clear hE h0 hl2 hlen ih hb hr hf hok hbuf hk hc0 hr0 hkid hcap
  generalize T.kids 0 = K0 at *
  generalize T.name = ts at *
  generalize T.num = tn at *
  go_enter Tryz.func59, Tryz.ntmps59
  go_wp2_with (first
    | (go_at_call 19; refine (HP.out.add _ (by have := HB.out; simp at this ⊢; omega)).mono ?_; rintro e w2 ⟨rfl, hp⟩; obtain ⟨b0, b1, b2, b3⟩ := HN.out _ _ hp; obtain ⟨c00, c01, c02, c03⟩ := HC0.out _ _ hp; have HP := hid_mk hp; clear hp)
    | (go_at_call_of 59 u0; refine (HP.out.expr HI0.out 1 u0 HF0.out HR0.out HE0.out (by decide) (by have := HB.out; simp at this ⊢; omega)).mono ?_; rintro e w2 ⟨rfl, hp⟩; obtain ⟨b0, b1, b2, b3⟩ := HN.out _ _ hp; obtain ⟨c00, c01, c02, c03⟩ := HC0.out _ _ hp; have HP := hid_mk hp; clear hp))
  go_end0
  exact HP.out.addsB (by simp)

/-- Every expression. -/
theorem ex_all (T : Nd) : ExC T := by
  have step : ∀ T : Nd, (∀ i, i < T.len → ExC (T.kids i)) → ExC T := by
    intro T ih
    by_cases h22 : T.kind = 22
    · exact ex_22 T h22
    by_cases h23 : T.kind = 23
    · exact ex_23 T h23
    by_cases h24 : T.kind = 24
    · exact ex_24 T h24
    by_cases h25 : T.kind = 25
    · exact ex_25 T h25 ih
    by_cases h26 : T.kind = 26
    · by_cases h0 : T.len = 0
      · exact ex_26a T h26 h0
      · exact ex_26b T h26 h0 ih
    by_cases h27 : T.kind = 27
    · exact ex_27 T h27 ih
    by_cases h28 : T.kind = 28
    · exact ex_28 T h28 ih
    by_cases h29 : T.kind = 29
    · exact ex_29 T h29 ih
    intro ob own X l w v _ _ _ hok
    rw [eOk_eq] at hok
    simp [exprB, h22, h23, h24, h25, h26, h27, h28, h29] at hok
  induction T with
  | nil => exact step .nil fun i hi => absurd hi (Nat.not_lt_zero _)
  | mk k n s len kids ih => exact step _ fun i _ => ih i

end Go.Proofs.YtacamenjijlemaaGreatDoor
