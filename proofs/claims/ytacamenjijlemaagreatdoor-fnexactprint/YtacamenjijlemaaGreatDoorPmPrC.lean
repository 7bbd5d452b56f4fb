/- The specification's printer: a word and an expression; lists of statements; blocks; the head of a case. -/
import Derived.Test.YtacamenjijlemaaGreatDoorPmPrA
import Derived.Test.YtacamenjijlemaaGreatDoorPmPrB
import Derived.WalkSpells
import Derived.WalkSmall
set_option linter.unusedVariables false
namespace Go.Proofs.YtacamenjijlemaaGreatDoor
open Go.RowKit

/-- Kids as statements. -/
def StsC (T : Nd) : Prop := ∀ (ob : Nat) (own : Option Nat) (X : List UInt8) (d : Nat) (w : World) (v : Value), Buf ob w own X → T.Fine → Row 0 ob w T v → (∀ i, i < T.len → (T.kids i).sOk = true) →
  X.length + ((prN T).sts d).length ≤ 1099511627776 → Calls Tryz.prog 29 #[.pointer (some ⟨ob, 0, none⟩), T.val v, .int .i64 d] w (Adds ob X ((prN T).sts d) own w)
def BkC (T : Nd) : Prop := ∀ (ob : Nat) (own : Option Nat) (X : List UInt8) (d : Nat) (w : World) (v : Value), Buf ob w own X → T.Fine → Row 0 ob w T v → (∀ i, i < T.len → (T.kids i).sOk = true) →
  X.length + (blockT d ((prN T).sts (d + 1))).length ≤ 1099511627776 → Calls Tryz.prog 21 #[.pointer (some ⟨ob, 0, none⟩), T.val v, .int .i64 d] w (Adds ob X (blockT d ((prN T).sts (d + 1))) own w)
theorem Pst.sts {T : Nd} (hT : StsC T) {ob : Nat} {own0 : Option Nat} {w0 w : World} {Y : List UInt8} (h : Pst ob own0 w0 Y w) (d : Nat) (v : Value) (hf : T.Fine) (hr : Row 0 ob w0 T v) (hok : ∀ i, i < T.len → (T.kids i).sOk = true) (hb : Y.length + ((prN T).sts d).length ≤ 1099511627776) :
    Calls Tryz.prog 29 #[.pointer (some ⟨ob, 0, none⟩), T.val v, .int .i64 d] w fun e w' => e = .returned (.tuple #[]) ∧ Pst ob own0 w0 (Y ++ (prN T).sts d) w' :=
  h.lift fun own hbuf => hT ob own Y d w v hbuf hf (row_below h.below (Nat.le_refl _) hr) hok hb
theorem Pst.block {T : Nd} (hT : BkC T) {ob : Nat} {own0 : Option Nat} {w0 w : World} {Y : List UInt8} (h : Pst ob own0 w0 Y w) (d : Nat) (v : Value) (hf : T.Fine) (hr : Row 0 ob w0 T v) (hok : ∀ i, i < T.len → (T.kids i).sOk = true) (hb : Y.length + (blockT d ((prN T).sts (d + 1))).length ≤ 1099511627776) :
    Calls Tryz.prog 21 #[.pointer (some ⟨ob, 0, none⟩), T.val v, .int .i64 d] w fun e w' => e = .returned (.tuple #[]) ∧ Pst ob own0 w0 (Y ++ blockT d ((prN T).sts (d + 1))) w' :=
  h.lift fun own hbuf => hT ob own Y d w v hbuf hf (row_below h.below (Nat.le_refl _) hr) hok hb

set_option maxHeartbeats 4000000 in
set_option maxRecDepth 100000 in
theorem stmts_of (T : Nd) (ih : ∀ i, i < T.len → SmC (T.kids i)) : StsC T := by
  intro ob own X d w v hbuf hf hr hE hb
  have hn := T.fine_len hf
  obtain ⟨a, cap, rfl, hcap, _⟩ := row_eq.1 hr
  rw [prN_sts] at hb ⊢
  have HE := hid_mk hE
  unfold Nd.val
  have HP := hid_mk (Pst.startB hbuf (.cells #[.int .i64 T.kind, .int .i64 T.num, .string T.name, .slice a T.len cap] 30))
  have HN := hid_mk (Pst.node hbuf (.int .i64 T.kind) (.int .i64 T.num) (.string T.name) (.slice a T.len cap) 30)
  have HR := hid_mk (row_alloc hbuf hr (.cells #[.int .i64 T.kind, .int .i64 T.num, .string T.name, .slice a T.len cap] 30))
  have HI := hid_mk ih
  have HF := hid_mk hf
  have HB := hid_mk hb
  clear hb hr hf hE hbuf ih hcap
  generalize hF : (fun i => tabsT d ++ ((prN (T.kids i)).st d ++ [10])) = F at *
  have HFE := hid_mk hF
  have HFL := hid_mk (fun i (h : i < T.len) => catTo_at F h)
  clear hF
  generalize T.name = ts at *
  generalize T.num = tn at *
  generalize T.kind = tk at *
  go_enter Tryz.func29, Tryz.ntmps29
  go_wp2
  go_loopw [6] (fun i wr => ∃ j : Nat, j ≤ T.len ∧ i = .int .i64 j ∧ Hid (Pst ob own (w.alloc (.cells #[.int .i64 tk, .int .i64 tn, .string ts, .slice a T.len cap] 30)) (X ++ catTo F j) wr)) (fun i _ => T.len - (intOf i).toNat)
  case atStart => exact ⟨0, by omega, rfl, hid_mk (by simpa [catTo] using HP.out)⟩
  case round =>
    obtain ⟨j, hj, rfl, HP⟩ := hrel
    obtain ⟨b0, b1, b2, b3⟩ := HN.out _ _ HP.out
    by_cases hlt : j < T.len
    · obtain ⟨g, off, cap', hv, hg, hcap, hk⟩ := kid_at HR.out (by omega)
      obtain ⟨rfl, rfl⟩ : a = some ⟨g, off, none⟩ ∧ cap = cap' := by injection hv with e1 e2 e3; exact ⟨e1, e3⟩
      obtain ⟨u, hc, hru⟩ := hk j hlt
      have HC := hid_mk hc
      have HRU := hid_mk hru
      have hcl := HFL.out j hlt
      have HIJ := hid_mk (HI.out j hlt)
      have HFJ := hid_mk (Nd.fine_kid HF.out hlt)
      have HEJ := hid_mk (HE.out j hlt)
      have HFJE : Hid (F j = tabsT d ++ ((prN (T.kids j)).st d ++ [10])) := by rw [← HFE.out]; rfl
      have hcl2 : (catTo F j).length + (d + (((prN (T.kids j)).st d).length + 1)) ≤ (catTo F T.len).length := by rw [HFJE.out] at hcl; simpa [tabsT] using hcl
      clear hk hc hru hcl hv hcap
      generalize T.kids j = K at *
      have HX : Hid (catTo F (j + 1) = catTo F j ++ (tabsT d ++ ((prN K).st d ++ [10]))) := by unfold Hid; rw [← HFJE.out]; rfl
      go_wp2_with (first
        | (go_at_call 30; refine (HP.out.tabs d (by have := HB.out; simp; omega)).mono ?_; rintro e w2 ⟨rfl, hp⟩; obtain ⟨b0, b1, b2, b3⟩ := HN.out _ _ hp; obtain ⟨c0, c1, c2, c3⟩ := HC.out _ hp.below; have HP := hid_mk hp; clear hp)
        | (go_at_call 19; refine (HP.out.add _ (by have := HB.out; simp [tabsT]; omega)).mono ?_; rintro e w2 ⟨rfl, hp⟩; obtain ⟨b0, b1, b2, b3⟩ := HN.out _ _ hp; have HP := hid_mk hp; clear hp)
        | (go_at_call 46; refine (HP.out.stmt HIJ.out d u HFJ.out HRU.out HEJ.out (by have := HB.out; simp [tabsT]; omega)).mono ?_; rintro e w2 ⟨rfl, hp⟩; obtain ⟨b0, b1, b2, b3⟩ := HN.out _ _ hp; have HP := hid_mk hp; clear hp))
      exact ⟨⟨j + 1, by omega, by go_num, hid_mk (by rw [HX.out]; simpa using HP.out)⟩, by simp [intOf]; omega⟩
    · obtain rfl : j = T.len := by omega
      go_wp2
      go_end0
      exact HP.out.addsB (by simp)

set_option maxHeartbeats 4000000 in
set_option maxRecDepth 100000 in
theorem block_of (T : Nd) (ih : StsC T) : BkC T := by
  intro ob own X d w v hbuf hf hr hE hb
  have hn := T.fine_len hf
  have hd : d ≤ 1099511627776 := by have := hb; simp [blockT, tabsT] at this; omega
  obtain ⟨a, cap, rfl, hcap, _⟩ := row_eq.1 hr
  have HP := hid_mk (Pst.startB hbuf (.cells #[.int .i64 T.kind, .int .i64 T.num, .string T.name, .slice a T.len cap] 30))
  have HN := hid_mk (Pst.node hbuf (.int .i64 T.kind) (.int .i64 T.num) (.string T.name) (.slice a T.len cap) 30)
  have HR := hid_mk (row_alloc hbuf hr (.cells #[.int .i64 T.kind, .int .i64 T.num, .string T.name, .slice a T.len cap] 30))
  have HE := hid_mk hE
  have HI := hid_mk ih
  have HF := hid_mk hf
  have HB := hid_mk hb
  unfold Nd.val
  clear hb hr hf hE hbuf ih hcap
  go_enter Tryz.func21, Tryz.ntmps21
  go_wp2_with (first
    | (go_at_call 30; refine (HP.out.tabs d (by have := HB.out; simp [blockT, tabsT] at this ⊢; omega)).mono ?_; rintro e w2 ⟨rfl, hp⟩; obtain ⟨b0, b1, b2, b3⟩ := HN.out _ _ hp; have HP := hid_mk hp; clear hp)
    | (go_at_call 19; (refine (HP.out.add _ (by have := HB.out; simp [blockT, tabsT] at this ⊢; omega)).mono ?_; rintro e w2 ⟨rfl, hp⟩; obtain ⟨b0, b1, b2, b3⟩ := HN.out _ _ hp; have HP := hid_mk hp; clear hp))
    | (go_at_call 29; refine (HP.out.sts HI.out (d + 1) _ HF.out HR.out HE.out (by have := HB.out; simp [blockT, tabsT] at this ⊢; omega)).mono ?_; rintro e w2 ⟨rfl, hp⟩; obtain ⟨b0, b1, b2, b3⟩ := HN.out _ _ hp; have HP := hid_mk hp; clear hp))
  go_end0
  exact HP.out.addsB (by simp [blockT])

set_option maxHeartbeats 4000000 in
set_option maxRecDepth 100000 in
/-- A word and an expression, if there is one. -/
theorem wordp_any (T : Nd) (s : ByteArray) (ob : Nat) (own : Option Nat) (X : List UInt8) (w : World) (v : Value) (hbuf : Buf ob w own X) (hf : T.Fine) (hr : Row 0 ob w T v) (hE : ∀ i, i < T.len → i = 0 → (T.kids i).eOk = true)
    (hb : X.length + (s.data.toList ++ (if T.len = 0 then [] else (prN (T.kids 0)).ex 1)).length ≤ 1099511627776) :
    Calls Tryz.prog 58 #[.pointer (some ⟨ob, 0, none⟩), .string s, T.val v] w (Adds ob X (s.data.toList ++ (if T.len = 0 then [] else (prN (T.kids 0)).ex 1)) own w) := by
  have hn := T.fine_len hf
  by_cases h0 : T.len = 0
  · obtain ⟨a, cap, rfl, hcap, _⟩ := row_eq.1 hr
    rw [if_pos h0] at hb ⊢
    unfold Nd.val
    rw [h0]
    have HP := hid_mk (Pst.startB hbuf (.cells #[.int .i64 T.kind, .int .i64 T.num, .string T.name, .slice a 0 cap] 30))
    have HN := hid_mk (Pst.node hbuf (.int .i64 T.kind) (.int .i64 T.num) (.string T.name) (.slice a 0 cap) 30)
    have HB := hid_mk hb
    clear hb hr hf hE hbuf hcap h0
    generalize T.name = ts at *
    generalize T.num = tn at *
    generalize T.kind = tk at *
    go_enter Tryz.func58, Tryz.ntmps58
    go_wp2_with (go_at_call 19; refine (HP.out.add _ (by have := HB.out; simp at this ⊢; omega)).mono ?_; rintro e w2 ⟨rfl, hp⟩; obtain ⟨b0, b1, b2, b3⟩ := HN.out _ _ hp; have HP := hid_mk hp; clear hp)
    go_end0
    exact HP.out.addsB (by simp)
  · obtain ⟨g, off, cap, rfl, hg, hcap, hkid⟩ := kid_at hr h0
    obtain ⟨u0, hc0, hr0⟩ := hkid 0 (by omega)
    simp only [Nat.zero_mul, Nat.add_zero] at hc0
    have hlt0 : 0 < T.len := by omega
    rw [if_neg h0] at hb ⊢
    unfold Nd.val
    have HP := hid_mk (Pst.startB hbuf (.cells #[.int .i64 T.kind, .int .i64 T.num, .string T.name, .slice (some ⟨g, off, none⟩) T.len cap] 30))
    have HN := hid_mk (Pst.node hbuf (.int .i64 T.kind) (.int .i64 T.num) (.string T.name) (.slice (some ⟨g, off, none⟩) T.len cap) 30)
    have HC0 := hid_mk (fun Y W (h : Pst ob own (w.alloc (.cells #[.int .i64 T.kind, .int .i64 T.num, .string T.name, .slice (some ⟨g, off, none⟩) T.len cap] 30)) Y W) => hc0 W (h.belowB hbuf))
    have HR0 := hid_mk (row_alloc hbuf hr0 (.cells #[.int .i64 T.kind, .int .i64 T.num, .string T.name, .slice (some ⟨g, off, none⟩) T.len cap] 30))
    have HI0 := hid_mk (ex_all (T.kids 0))
    have HF0 := hid_mk (Nd.fine_kid hf hlt0)
    have HE0 := hid_mk (hE 0 hlt0 rfl)
    have HB := hid_mk hb
    clear hb hr hf hE hbuf hcap h0 hc0 hr0 hkid
    generalize T.kids 0 = K0 at *
    generalize T.name = ts at *
    generalize T.num = tn at *
    generalize T.kind = tk at *
    go_enter Tryz.func58, Tryz.ntmps58
    go_wp2_with (first
      | (go_at_call 19; refine (HP.out.add _ (by have := HB.out; simp at this ⊢; omega)).mono ?_; rintro e w2 ⟨rfl, hp⟩; obtain ⟨b0, b1, b2, b3⟩ := HN.out _ _ hp; obtain ⟨c00, c01, c02, c03⟩ := HC0.out _ _ hp; have HP := hid_mk hp; clear hp)
      | (go_at_call_of 59 u0; refine (HP.out.expr HI0.out 1 u0 HF0.out HR0.out HE0.out (by decide) (by have := HB.out; simp at this ⊢; omega)).mono ?_; rintro e w2 ⟨rfl, hp⟩; obtain ⟨b0, b1, b2, b3⟩ := HN.out _ _ hp; obtain ⟨c00, c01, c02, c03⟩ := HC0.out _ _ hp; have HP := hid_mk hp; clear hp))
    go_end0
    exact HP.out.addsB (by simp)
theorem Pst.word {T : Nd} {ob : Nat} {own0 : Option Nat} {w0 w : World} {Y : List UInt8} (h : Pst ob own0 w0 Y w) (s : ByteArray) (v : Value) (hf : T.Fine) (hr : Row 0 ob w0 T v) (hE : ∀ i, i < T.len → i = 0 → (T.kids i).eOk = true) (hb : Y.length + (s.data.toList ++ (if T.len = 0 then [] else (prN (T.kids 0)).ex 1)).length ≤ 1099511627776) :
    Calls Tryz.prog 58 #[.pointer (some ⟨ob, 0, none⟩), .string s, T.val v] w fun e w' => e = .returned (.tuple #[]) ∧ Pst ob own0 w0 (Y ++ (s.data.toList ++ (if T.len = 0 then [] else (prN (T.kids 0)).ex 1))) w' :=
  h.lift fun own hbuf => wordp_any T s ob own Y w v hbuf hf (row_below h.below (Nat.le_refl _) hr) hE hb

end Go.Proofs.YtacamenjijlemaaGreatDoor

/- The specification's printer: statements: those of a word and an expression. -/
namespace Go.Proofs.YtacamenjijlemaaGreatDoor
open Go.RowKit
theorem st_text_5 (T : Nd) (hk : T.kind = 5) (d : Nat) : (prN T).st d = (T.name.data.toList ++ [32, 58, 61, 32]) ++ (if T.len = 0 then [] else (prN (T.kids 0)).ex 1) := by
  cases T with
  | nil => simp [Nd.kind] at hk
  | mk k n s len kids => obtain rfl : k = 5 := hk; rfl
theorem st_text_6 (T : Nd) (hk : T.kind = 6) (d : Nat) : (prN T).st d = (T.name.data.toList ++ [32, 61, 32]) ++ (if T.len = 0 then [] else (prN (T.kids 0)).ex 1) := by
  cases T with
  | nil => simp [Nd.kind] at hk
  | mk k n s len kids => obtain rfl : k = 6 := hk; rfl
theorem st_text_7 (T : Nd) (hk : T.kind = 7) (d : Nat) : (prN T).st d = T.name.data.toList ++ (if T.num = 1 then [43, 43] else [45, 45]) := by
  cases T with
  | nil => simp [Nd.kind] at hk
  | mk k n s len kids => obtain rfl : k = 7 := hk; rfl
theorem st_text_8 (T : Nd) (hk : T.kind = 8) (d : Nat) : (prN T).st d = (prN (T.kids 0)).ex 1 ++ ([32, 60, 45, 32] ++ (prN (T.kids 1)).ex 1) := by
  cases T with
  | nil => simp [Nd.kind] at hk
  | mk k n s len kids => obtain rfl : k = 8 := hk; rfl
theorem st_text_9 (T : Nd) (hk : T.kind = 9) (d : Nat) : (prN T).st d = (prN (T.kids 0)).ex 1 := by
  cases T with
  | nil => simp [Nd.kind] at hk
  | mk k n s len kids => obtain rfl : k = 9 := hk; rfl
theorem st_text_12 (T : Nd) (hk : T.kind = 12) (d : Nat) : (prN T).st d = (if T.len = 0 then [114, 101, 116, 117, 114, 110] else [114, 101, 116, 117, 114, 110, 32] ++ (if T.len = 0 then [] else (prN (T.kids 0)).ex 1)) := by
  cases T with
  | nil => simp [Nd.kind] at hk
  | mk k n s len kids => obtain rfl : k = 12 := hk; rfl
theorem st_text_13 (T : Nd) (hk : T.kind = 13) (d : Nat) : (prN T).st d = [103, 111, 32] ++ (if T.len = 0 then [] else (prN (T.kids 0)).ex 1) := by
  cases T with
  | nil => simp [Nd.kind] at hk
  | mk k n s len kids => obtain rfl : k = 13 := hk; rfl
theorem st_text_14 (T : Nd) (hk : T.kind = 14) (d : Nat) : (prN T).st d = [100, 101, 102, 101, 114, 32] ++ (if T.len = 0 then [] else (prN (T.kids 0)).ex 1) := by
  cases T with
  | nil => simp [Nd.kind] at hk
  | mk k n s len kids => obtain rfl : k = 14 := hk; rfl
theorem st_text_17 (T : Nd) (hk : T.kind = 17) (d : Nat) : (prN T).st d = [98, 114, 101, 97, 107] := by
  cases T with
  | nil => simp [Nd.kind] at hk
  | mk k n s len kids => obtain rfl : k = 17 := hk; rfl
theorem st_text_18 (T : Nd) (hk : T.kind = 18) (d : Nat) : (prN T).st d = [99, 111, 110, 116, 105, 110, 117, 101] := by
  cases T with
  | nil => simp [Nd.kind] at hk
  | mk k n s len kids => obtain rfl : k = 18 := hk; rfl
theorem st_text_19 (T : Nd) (hk : T.kind = 19) (d : Nat) : (prN T).st d = ([99, 108, 111, 115, 101, 40] ++ (if T.len = 0 then [] else (prN (T.kids 0)).ex 1)) ++ [41] := by
  cases T with
  | nil => simp [Nd.kind] at hk
  | mk k n s len kids => obtain rfl : k = 19 := hk; rfl
theorem st_text_20 (T : Nd) (hk : T.kind = 20) (d : Nat) : (prN T).st d = ([112, 114, 105, 110, 116, 40] ++ (if T.len = 0 then [] else (prN (T.kids 0)).ex 1)) ++ [41] := by
  cases T with
  | nil => simp [Nd.kind] at hk
  | mk k n s len kids => obtain rfl : k = 20 := hk; rfl
theorem st_text_21 (T : Nd) (hk : T.kind = 21) (d : Nat) : (prN T).st d = ([112, 97, 110, 105, 99, 40] ++ (if T.len = 0 then [] else (prN (T.kids 0)).ex 1)) ++ [41] := by
  cases T with
  | nil => simp [Nd.kind] at hk
  | mk k n s len kids => obtain rfl : k = 21 := hk; rfl
theorem one_c {e st : Nat → Bool} {kk : Nat → Int} {len : Nat} (h : sortsB e st kk len ⟨#[99]⟩ = true) : len = 1 ∧ e 0 = true := by
  unfold sortsB at h
  simp only [Bool.and_eq_true, decide_eq_true_eq] at h
  refine ⟨h.1, ?_⟩
  have := allTo_iff.1 h.2 0 (by decide)
  simp [sortB] at this
  exact this.2
theorem zero_of {T : Nd} {P : Nat → Prop} (h : P 0) : ∀ i, i < T.len → i = 0 → P i := fun i _ e => e ▸ h
theorem st_ok_5 {T : Nd} (hk : T.kind = 5) (h : T.sOk = true) : ∀ i, i < T.len → i = 0 → (T.kids i).eOk = true := by
  rw [sOk_eq, hk] at h
  simp [stmtB] at h
  exact zero_of (P := fun i => (T.kids i).eOk = true) (one_e h.2).2
theorem st_ok_6 {T : Nd} (hk : T.kind = 6) (h : T.sOk = true) : ∀ i, i < T.len → i = 0 → (T.kids i).eOk = true := by
  rw [sOk_eq, hk] at h
  simp [stmtB] at h
  exact zero_of (P := fun i => (T.kids i).eOk = true) (one_e h.2).2
theorem st_ok_7 {T : Nd} (hk : T.kind = 7) (h : T.sOk = true) : T.num = 1 ∨ T.num = -1 := by
  rw [sOk_eq, hk] at h
  simp [stmtB] at h
  exact h.2.1
theorem st_ok_8 {T : Nd} (hk : T.kind = 8) (h : T.sOk = true) : T.len = 2 ∧ (T.kids 0).eOk = true ∧ (T.kids 1).eOk = true := by
  rw [sOk_eq, hk] at h
  simp [stmtB] at h
  exact two_e h.2
theorem st_ok_9 {T : Nd} (hk : T.kind = 9) (h : T.sOk = true) : T.len = 1 ∧ (T.kids 0).eOk = true := by
  rw [sOk_eq, hk] at h
  simp [stmtB] at h
  exact one_e h.2.1
theorem st_ok_12 {T : Nd} (hk : T.kind = 12) (h : T.sOk = true) : ∀ i, i < T.len → i = 0 → (T.kids i).eOk = true := by
  rw [sOk_eq, hk] at h
  simp [stmtB] at h
  rcases h.2 with h | h
  · intro i hi; omega
  · exact zero_of (P := fun i => (T.kids i).eOk = true) (one_e h).2
theorem st_ok_13 {T : Nd} (hk : T.kind = 13) (h : T.sOk = true) : ∀ i, i < T.len → i = 0 → (T.kids i).eOk = true := by
  rw [sOk_eq, hk] at h
  simp [stmtB] at h
  exact zero_of (P := fun i => (T.kids i).eOk = true) (one_c h.2).2
theorem st_ok_14 {T : Nd} (hk : T.kind = 14) (h : T.sOk = true) : ∀ i, i < T.len → i = 0 → (T.kids i).eOk = true := by
  rw [sOk_eq, hk] at h
  simp [stmtB] at h
  exact zero_of (P := fun i => (T.kids i).eOk = true) (one_c h.2).2
theorem st_ok_19 {T : Nd} (hk : T.kind = 19) (h : T.sOk = true) : ∀ i, i < T.len → i = 0 → (T.kids i).eOk = true := by
  rw [sOk_eq, hk] at h
  simp [stmtB] at h
  exact zero_of (P := fun i => (T.kids i).eOk = true) (one_e h.2).2
theorem st_ok_20 {T : Nd} (hk : T.kind = 20) (h : T.sOk = true) : ∀ i, i < T.len → i = 0 → (T.kids i).eOk = true := by
  rw [sOk_eq, hk] at h
  simp [stmtB] at h
  exact zero_of (P := fun i => (T.kids i).eOk = true) (one_e h.2).2
theorem st_ok_21 {T : Nd} (hk : T.kind = 21) (h : T.sOk = true) : ∀ i, i < T.len → i = 0 → (T.kids i).eOk = true := by
  rw [sOk_eq, hk] at h
  simp [stmtB] at h
  exact zero_of (P := fun i => (T.kids i).eOk = true) (one_e h.2).2

set_option maxHeartbeats 4000000 in
set_option maxRecDepth 100000 in
theorem st_5 (T : Nd) (hk : T.kind = 5) : SmC T := by
  intro ob own X d w v hbuf hf hr hok hb
  have hn := T.fine_len hf
  rw [st_text_5 T hk] at hb ⊢
  have hE := st_ok_5 hk hok
  obtain ⟨a, cap, rfl, _⟩ := row_eq.1 hr
  have hval : T.val (.slice a T.len cap) = .agg #[.int .i64 5, .int .i64 T.num, .string T.name, .slice a T.len cap] := by unfold Nd.val; rw [hk]
  rw [hval]
  have HP := hid_mk (Pst.startB hbuf (.cells #[.int .i64 5, .int .i64 T.num, .string T.name, .slice a T.len cap] 30))
  have HN := hid_mk (Pst.node hbuf (.int .i64 5) (.int .i64 T.num) (.string T.name) (.slice a T.len cap) 30)
  have HW := hid_mk (fun Y W s (h : Pst ob own (w.alloc (.cells #[.int .i64 5, .int .i64 T.num, .string T.name, .slice a T.len cap] 30)) Y W) hb => h.word (T := T) s (.slice a T.len cap) hf (row_alloc hbuf hr (.cells #[.int .i64 5, .int .i64 T.num, .string T.name, .slice a T.len cap] 30)) hE hb)
  rw [hval] at HW
  have hs : T.name.size ≤ 1099511627776 := by
    have := hb
    simp at this
    omega
  have HB := hid_mk hb
  clear hE hb hr hf hok hbuf hk hval
  generalize (if T.len = 0 then [] else (prN (T.kids 0)).ex 1) = tail at *
  generalize T.name = ts at *
  generalize T.num = tn at *
  go_enter Tryz.func46, Tryz.ntmps46
  go_wp2_with (first
    | (go_at_call 58; refine (HW.out _ _ _ HP.out (by have := HB.out; simp at this ⊢; omega)).mono ?_; rintro e w2 ⟨rfl, hp⟩; obtain ⟨b0, b1, b2, b3⟩ := HN.out _ _ hp; have HP := hid_mk hp; clear hp))
  go_end0
  exact HP.out.addsB (by simp)

set_option maxHeartbeats 4000000 in
set_option maxRecDepth 100000 in
theorem st_6 (T : Nd) (hk : T.kind = 6) : SmC T := by
  intro ob own X d w v hbuf hf hr hok hb
  have hn := T.fine_len hf
  rw [st_text_6 T hk] at hb ⊢
  have hE := st_ok_6 hk hok
  obtain ⟨a, cap, rfl, _⟩ := row_eq.1 hr
  have hval : T.val (.slice a T.len cap) = .agg #[.int .i64 6, .int .i64 T.num, .string T.name, .slice a T.len cap] := by unfold Nd.val; rw [hk]
  rw [hval]
  have HP := hid_mk (Pst.startB hbuf (.cells #[.int .i64 6, .int .i64 T.num, .string T.name, .slice a T.len cap] 30))
  have HN := hid_mk (Pst.node hbuf (.int .i64 6) (.int .i64 T.num) (.string T.name) (.slice a T.len cap) 30)
  have HW := hid_mk (fun Y W s (h : Pst ob own (w.alloc (.cells #[.int .i64 6, .int .i64 T.num, .string T.name, .slice a T.len cap] 30)) Y W) hb => h.word (T := T) s (.slice a T.len cap) hf (row_alloc hbuf hr (.cells #[.int .i64 6, .int .i64 T.num, .string T.name, .slice a T.len cap] 30)) hE hb)
  rw [hval] at HW
  have hs : T.name.size ≤ 1099511627776 := by
    have := hb
    simp at this
    omega
  have HB := hid_mk hb
  clear hE hb hr hf hok hbuf hk hval
  generalize (if T.len = 0 then [] else (prN (T.kids 0)).ex 1) = tail at *
  generalize T.name = ts at *
  generalize T.num = tn at *
  go_enter Tryz.func46, Tryz.ntmps46
  go_wp2_with (first
    | (go_at_call 58; refine (HW.out _ _ _ HP.out (by have := HB.out; simp at this ⊢; omega)).mono ?_; rintro e w2 ⟨rfl, hp⟩; obtain ⟨b0, b1, b2, b3⟩ := HN.out _ _ hp; have HP := hid_mk hp; clear hp))
  go_end0
  exact HP.out.addsB (by simp)

set_option maxHeartbeats 4000000 in
set_option maxRecDepth 100000 in
theorem st_13 (T : Nd) (hk : T.kind = 13) : SmC T := by
  intro ob own X d w v hbuf hf hr hok hb
  have hn := T.fine_len hf
  rw [st_text_13 T hk] at hb ⊢
  have hE := st_ok_13 hk hok
  obtain ⟨a, cap, rfl, _⟩ := row_eq.1 hr
  have hval : T.val (.slice a T.len cap) = .agg #[.int .i64 13, .int .i64 T.num, .string T.name, .slice a T.len cap] := by unfold Nd.val; rw [hk]
  rw [hval]
  have HP := hid_mk (Pst.startB hbuf (.cells #[.int .i64 13, .int .i64 T.num, .string T.name, .slice a T.len cap] 30))
  have HN := hid_mk (Pst.node hbuf (.int .i64 13) (.int .i64 T.num) (.string T.name) (.slice a T.len cap) 30)
  have HW := hid_mk (fun Y W s (h : Pst ob own (w.alloc (.cells #[.int .i64 13, .int .i64 T.num, .string T.name, .slice a T.len cap] 30)) Y W) hb => h.word (T := T) s (.slice a T.len cap) hf (row_alloc hbuf hr (.cells #[.int .i64 13, .int .i64 T.num, .string T.name, .slice a T.len cap] 30)) hE hb)
  rw [hval] at HW
  have HB := hid_mk hb
  clear hE hb hr hf hok hbuf hk hval
  generalize (if T.len = 0 then [] else (prN (T.kids 0)).ex 1) = tail at *
  generalize T.name = ts at *
  generalize T.num = tn at *
  go_enter Tryz.func46, Tryz.ntmps46
  go_wp2_with (first
    | (go_at_call 58; refine (HW.out _ _ _ HP.out (by have := HB.out; simp at this ⊢; omega)).mono ?_; rintro e w2 ⟨rfl, hp⟩; obtain ⟨b0, b1, b2, b3⟩ := HN.out _ _ hp; have HP := hid_mk hp; clear hp))
  go_end0
  exact HP.out.addsB (by simp)

set_option maxHeartbeats 4000000 in
set_option maxRecDepth 100000 in
theorem st_14 (T : Nd) (hk : T.kind = 14) : SmC T := by
  intro ob own X d w v hbuf hf hr hok hb
  have hn := T.fine_len hf
  rw [st_text_14 T hk] at hb ⊢
  have hE := st_ok_14 hk hok
  obtain ⟨a, cap, rfl, _⟩ := row_eq.1 hr
  have hval : T.val (.slice a T.len cap) = .agg #[.int .i64 14, .int .i64 T.num, .string T.name, .slice a T.len cap] := by unfold Nd.val; rw [hk]
  rw [hval]
  have HP := hid_mk (Pst.startB hbuf (.cells #[.int .i64 14, .int .i64 T.num, .string T.name, .slice a T.len cap] 30))
  have HN := hid_mk (Pst.node hbuf (.int .i64 14) (.int .i64 T.num) (.string T.name) (.slice a T.len cap) 30)
  have HW := hid_mk (fun Y W s (h : Pst ob own (w.alloc (.cells #[.int .i64 14, .int .i64 T.num, .string T.name, .slice a T.len cap] 30)) Y W) hb => h.word (T := T) s (.slice a T.len cap) hf (row_alloc hbuf hr (.cells #[.int .i64 14, .int .i64 T.num, .string T.name, .slice a T.len cap] 30)) hE hb)
  rw [hval] at HW
  have HB := hid_mk hb
  clear hE hb hr hf hok hbuf hk hval
  generalize (if T.len = 0 then [] else (prN (T.kids 0)).ex 1) = tail at *
  generalize T.name = ts at *
  generalize T.num = tn at *
  go_enter Tryz.func46, Tryz.ntmps46
  go_wp2_with (first
    | (go_at_call 58; refine (HW.out _ _ _ HP.out (by have := HB.out; simp at this ⊢; omega)).mono ?_; rintro e w2 ⟨rfl, hp⟩; obtain ⟨b0, b1, b2, b3⟩ := HN.out _ _ hp; have HP := hid_mk hp; clear hp))
  go_end0
  exact HP.out.addsB (by simp)

set_option maxHeartbeats 4000000 in
set_option maxRecDepth 100000 in
theorem st_19 (T : Nd) (hk : T.kind = 19) : SmC T := by
  intro ob own X d w v hbuf hf hr hok hb
  have hn := T.fine_len hf
  rw [st_text_19 T hk] at hb ⊢
  have hE := st_ok_19 hk hok
  obtain ⟨a, cap, rfl, _⟩ := row_eq.1 hr
  have hval : T.val (.slice a T.len cap) = .agg #[.int .i64 19, .int .i64 T.num, .string T.name, .slice a T.len cap] := by unfold Nd.val; rw [hk]
  rw [hval]
  have HP := hid_mk (Pst.startB hbuf (.cells #[.int .i64 19, .int .i64 T.num, .string T.name, .slice a T.len cap] 30))
  have HN := hid_mk (Pst.node hbuf (.int .i64 19) (.int .i64 T.num) (.string T.name) (.slice a T.len cap) 30)
  have HW := hid_mk (fun Y W s (h : Pst ob own (w.alloc (.cells #[.int .i64 19, .int .i64 T.num, .string T.name, .slice a T.len cap] 30)) Y W) hb => h.word (T := T) s (.slice a T.len cap) hf (row_alloc hbuf hr (.cells #[.int .i64 19, .int .i64 T.num, .string T.name, .slice a T.len cap] 30)) hE hb)
  rw [hval] at HW
  have HB := hid_mk hb
  clear hE hb hr hf hok hbuf hk hval
  generalize (if T.len = 0 then [] else (prN (T.kids 0)).ex 1) = tail at *
  generalize T.name = ts at *
  generalize T.num = tn at *
  go_enter Tryz.func46, Tryz.ntmps46
  go_wp2_with (first
    | (go_at_call 58; refine (HW.out _ _ _ HP.out (by have := HB.out; simp at this ⊢; omega)).mono ?_; rintro e w2 ⟨rfl, hp⟩; obtain ⟨b0, b1, b2, b3⟩ := HN.out _ _ hp; have HP := hid_mk hp; clear hp)
    | (go_at_call 19; refine (HP.out.add _ (by have := HB.out; simp at this ⊢; omega)).mono ?_; rintro e w2 ⟨rfl, hp⟩; obtain ⟨b0, b1, b2, b3⟩ := HN.out _ _ hp; have HP := hid_mk hp; clear hp))
  go_end0
  exact HP.out.addsB (by simp)

set_option maxHeartbeats 4000000 in
set_option maxRecDepth 100000 in
theorem st_20 (T : Nd) (hk : T.kind = 20) : SmC T := by
  intro ob own X d w v hbuf hf hr hok hb
  have hn := T.fine_len hf
  rw [st_text_20 T hk] at hb ⊢
  have hE := st_ok_20 hk hok
  obtain ⟨a, cap, rfl, _⟩ := row_eq.1 hr
  have hval : T.val (.slice a T.len cap) = .agg #[.int .i64 20, .int .i64 T.num, .string T.name, .slice a T.len cap] := by unfold Nd.val; rw [hk]
  rw [hval]
  have HP := hid_mk (Pst.startB hbuf (.cells #[.int .i64 20, .int .i64 T.num, .string T.name, .slice a T.len cap] 30))
  have HN := hid_mk (Pst.node hbuf (.int .i64 20) (.int .i64 T.num) (.string T.name) (.slice a T.len cap) 30)
  have HW := hid_mk (fun Y W s (h : Pst ob own (w.alloc (.cells #[.int .i64 20, .int .i64 T.num, .string T.name, .slice a T.len cap] 30)) Y W) hb => h.word (T := T) s (.slice a T.len cap) hf (row_alloc hbuf hr (.cells #[.int .i64 20, .int .i64 T.num, .string T.name, .slice a T.len cap] 30)) hE hb)
  rw [hval] at HW
  have HB := hid_mk hb
  clear hE hb hr hf hok hbuf hk hval
  generalize (if T.len = 0 then [] else (prN (T.kids 0)).ex 1) = tail at *
  generalize T.name = ts at *
  generalize T.num = tn at *
  go_enter Tryz.func46, Tryz.ntmps46
  go_wp2_with (first
    | (go_at_call 58; refine (HW.out _ _ _ HP.out (by have := HB.out; simp at this ⊢; omega)).mono ?_; rintro e w2 ⟨rfl, hp⟩; obtain ⟨b0, b1, b2, b3⟩ := HN.out _ _ hp; have HP := hid_mk hp; clear hp)
    | (go_at_call 19; refine (HP.out.add _ (by have := HB.out; simp at this ⊢; omega)).mono ?_; rintro e w2 ⟨rfl, hp⟩; obtain ⟨b0, b1, b2, b3⟩ := HN.out _ _ hp; have HP := hid_mk hp; clear hp))
  go_end0
  exact HP.out.addsB (by simp)

set_option maxHeartbeats 4000000 in
set_option maxRecDepth 100000 in
theorem st_21 (T : Nd) (hk : T.kind = 21) : SmC T := by
  intro ob own X d w v hbuf hf hr hok hb
  have hn := T.fine_len hf
  rw [st_text_21 T hk] at hb ⊢
  have hE := st_ok_21 hk hok
  obtain ⟨a, cap, rfl, _⟩ := row_eq.1 hr
  have hval : T.val (.slice a T.len cap) = .agg #[.int .i64 21, .int .i64 T.num, .string T.name, .slice a T.len cap] := by unfold Nd.val; rw [hk]
  rw [hval]
  have HP := hid_mk (Pst.startB hbuf (.cells #[.int .i64 21, .int .i64 T.num, .string T.name, .slice a T.len cap] 30))
  have HN := hid_mk (Pst.node hbuf (.int .i64 21) (.int .i64 T.num) (.string T.name) (.slice a T.len cap) 30)
  have HW := hid_mk (fun Y W s (h : Pst ob own (w.alloc (.cells #[.int .i64 21, .int .i64 T.num, .string T.name, .slice a T.len cap] 30)) Y W) hb => h.word (T := T) s (.slice a T.len cap) hf (row_alloc hbuf hr (.cells #[.int .i64 21, .int .i64 T.num, .string T.name, .slice a T.len cap] 30)) hE hb)
  rw [hval] at HW
  have HB := hid_mk hb
  clear hE hb hr hf hok hbuf hk hval
  generalize (if T.len = 0 then [] else (prN (T.kids 0)).ex 1) = tail at *
  generalize T.name = ts at *
  generalize T.num = tn at *
  go_enter Tryz.func46, Tryz.ntmps46
  go_wp2_with (first
    | (go_at_call 58; refine (HW.out _ _ _ HP.out (by have := HB.out; simp at this ⊢; omega)).mono ?_; rintro e w2 ⟨rfl, hp⟩; obtain ⟨b0, b1, b2, b3⟩ := HN.out _ _ hp; have HP := hid_mk hp; clear hp)
    | (go_at_call 19; refine (HP.out.add _ (by have := HB.out; simp at this ⊢; omega)).mono ?_; rintro e w2 ⟨rfl, hp⟩; obtain ⟨b0, b1, b2, b3⟩ := HN.out _ _ hp; have HP := hid_mk hp; clear hp))
  go_end0
  exact HP.out.addsB (by simp)

set_option maxHeartbeats 4000000 in
set_option maxRecDepth 100000 in
theorem st_17 (T : Nd) (hk : T.kind = 17) : SmC T := by
  intro ob own X d w v hbuf hf hr hok hb
  have hn := T.fine_len hf
  rw [st_text_17 T hk] at hb ⊢
  obtain ⟨a, cap, rfl, _⟩ := row_eq.1 hr
  have hval : T.val (.slice a T.len cap) = .agg #[.int .i64 17, .int .i64 T.num, .string T.name, .slice a T.len cap] := by unfold Nd.val; rw [hk]
  rw [hval]
  have HP := hid_mk (Pst.startB hbuf (.cells #[.int .i64 17, .int .i64 T.num, .string T.name, .slice a T.len cap] 30))
  have HN := hid_mk (Pst.node hbuf (.int .i64 17) (.int .i64 T.num) (.string T.name) (.slice a T.len cap) 30)
  have HB := hid_mk hb
  clear hb hr hf hok hbuf hk hval
  generalize T.name = ts at *
  generalize T.num = tn at *
  go_enter Tryz.func46, Tryz.ntmps46
  go_wp2_with (first
    | (go_at_call 19; refine (HP.out.add _ (by have := HB.out; simp at this ⊢; omega)).mono ?_; rintro e w2 ⟨rfl, hp⟩; obtain ⟨b0, b1, b2, b3⟩ := HN.out _ _ hp; have HP := hid_mk hp; clear hp))
  go_end0
  exact HP.out.addsB (by simp)

set_option maxHeartbeats 4000000 in
set_option maxRecDepth 100000 in
theorem st_18 (T : Nd) (hk : T.kind = 18) : SmC T := by
  intro ob own X d w v hbuf hf hr hok hb
  have hn := T.fine_len hf
  rw [st_text_18 T hk] at hb ⊢
  obtain ⟨a, cap, rfl, _⟩ := row_eq.1 hr
  have hval : T.val (.slice a T.len cap) = .agg #[.int .i64 18, .int .i64 T.num, .string T.name, .slice a T.len cap] := by unfold Nd.val; rw [hk]
  rw [hval]
  have HP := hid_mk (Pst.startB hbuf (.cells #[.int .i64 18, .int .i64 T.num, .string T.name, .slice a T.len cap] 30))
  have HN := hid_mk (Pst.node hbuf (.int .i64 18) (.int .i64 T.num) (.string T.name) (.slice a T.len cap) 30)
  have HB := hid_mk hb
  clear hb hr hf hok hbuf hk hval
  generalize T.name = ts at *
  generalize T.num = tn at *
  go_enter Tryz.func46, Tryz.ntmps46
  go_wp2_with (first
    | (go_at_call 19; refine (HP.out.add _ (by have := HB.out; simp at this ⊢; omega)).mono ?_; rintro e w2 ⟨rfl, hp⟩; obtain ⟨b0, b1, b2, b3⟩ := HN.out _ _ hp; have HP := hid_mk hp; clear hp))
  go_end0
  exact HP.out.addsB (by simp)

set_option maxHeartbeats 4000000 in
set_option maxRecDepth 100000 in
theorem st_8 (T : Nd) (hk : T.kind = 8) : SmC T := by
  intro ob own X d w v hbuf hf hr hok hb
  have hn := T.fine_len hf
  rw [st_text_8 T hk] at hb ⊢
  obtain ⟨hlen, hE0, hE1⟩ := st_ok_8 hk hok
  have HE0 := hid_mk hE0
  have HE1 := hid_mk hE1
  obtain ⟨g, off, cap, rfl, hg, hcap, hkid⟩ := kid_at hr (by omega)
  obtain ⟨u0, hc0, hr0⟩ := hkid 0 (by omega)
  simp only [Nat.zero_mul, Nat.add_zero] at hc0
  have hlt0 : 0 < T.len := by omega
  obtain ⟨u1, hc1, hr1⟩ := hkid 1 (by omega)
  simp only [Nat.one_mul] at hc1
  have hlt1 : 1 < T.len := by omega
  have hval : T.val (.slice (some ⟨g, off, none⟩) T.len cap) = .agg #[.int .i64 8, .int .i64 T.num, .string T.name, .slice (some ⟨g, off, none⟩) T.len cap] := by unfold Nd.val; rw [hk]
  rw [hval]
  have HP := hid_mk (Pst.startB hbuf (.cells #[.int .i64 8, .int .i64 T.num, .string T.name, .slice (some ⟨g, off, none⟩) T.len cap] 30))
  have HN := hid_mk (Pst.node hbuf (.int .i64 8) (.int .i64 T.num) (.string T.name) (.slice (some ⟨g, off, none⟩) T.len cap) 30)
  have HC0 := hid_mk (fun Y W (h : Pst ob own (w.alloc (.cells #[.int .i64 8, .int .i64 T.num, .string T.name, .slice (some ⟨g, off, none⟩) T.len cap] 30)) Y W) => hc0 W (h.belowB hbuf))
  have HR0 := hid_mk (row_alloc hbuf hr0 (.cells #[.int .i64 8, .int .i64 T.num, .string T.name, .slice (some ⟨g, off, none⟩) T.len cap] 30))
  have HI0 := hid_mk (ex_all (T.kids 0))
  have HF0 := hid_mk (Nd.fine_kid hf hlt0)
  have HC1 := hid_mk (fun Y W (h : Pst ob own (w.alloc (.cells #[.int .i64 8, .int .i64 T.num, .string T.name, .slice (some ⟨g, off, none⟩) T.len cap] 30)) Y W) => hc1 W (h.belowB hbuf))
  have HR1 := hid_mk (row_alloc hbuf hr1 (.cells #[.int .i64 8, .int .i64 T.num, .string T.name, .slice (some ⟨g, off, none⟩) T.len cap] 30))
  have HI1 := hid_mk (ex_all (T.kids 1))
  have HF1 := hid_mk (Nd.fine_kid hf hlt1)
  have HB := hid_mk hb
  clear hlen hE0 hE1 hb hr hf hok hbuf hk hval hc0 hr0 hc1 hr1 hkid hcap
  obtain ⟨c00, c01, c02, c03⟩ := HC0.out _ _ HP.out
  obtain ⟨c10, c11, c12, c13⟩ := HC1.out _ _ HP.out
  generalize T.kids 0 = K0 at *
  generalize T.kids 1 = K1 at *
  generalize T.name = ts at *
  generalize T.num = tn at *
  go_enter Tryz.func46, Tryz.ntmps46
  go_wp2_with (first
    | (go_at_call 19; refine (HP.out.add _ (by have := HB.out; simp at this ⊢; omega)).mono ?_; rintro e w2 ⟨rfl, hp⟩; obtain ⟨b0, b1, b2, b3⟩ := HN.out _ _ hp; obtain ⟨c00, c01, c02, c03⟩ := HC0.out _ _ hp; obtain ⟨c10, c11, c12, c13⟩ := HC1.out _ _ hp; have HP := hid_mk hp; clear hp)
    | (go_at_call_of 59 u0; refine (HP.out.expr HI0.out 1 u0 HF0.out HR0.out HE0.out (by decide) (by have := HB.out; simp at this ⊢; omega)).mono ?_; rintro e w2 ⟨rfl, hp⟩; obtain ⟨b0, b1, b2, b3⟩ := HN.out _ _ hp; obtain ⟨c00, c01, c02, c03⟩ := HC0.out _ _ hp; obtain ⟨c10, c11, c12, c13⟩ := HC1.out _ _ hp; have HP := hid_mk hp; clear hp)
    | (go_at_call_of 59 u1; refine (HP.out.expr HI1.out 1 u1 HF1.out HR1.out HE1.out (by decide) (by have := HB.out; simp at this ⊢; omega)).mono ?_; rintro e w2 ⟨rfl, hp⟩; obtain ⟨b0, b1, b2, b3⟩ := HN.out _ _ hp; obtain ⟨c00, c01, c02, c03⟩ := HC0.out _ _ hp; obtain ⟨c10, c11, c12, c13⟩ := HC1.out _ _ hp; have HP := hid_mk hp; clear hp))
  go_end0
  exact HP.out.addsB (by simp)

set_option maxHeartbeats 4000000 in
set_option maxRecDepth 100000 in
theorem st_9 (T : Nd) (hk : T.kind = 9) : SmC T := by
  intro ob own X d w v hbuf hf hr hok hb
  have hn := T.fine_len hf
  rw [st_text_9 T hk] at hb ⊢
  obtain ⟨hlen, hE0⟩ := st_ok_9 hk hok
  have HE0 := hid_mk hE0
  obtain ⟨g, off, cap, rfl, hg, hcap, hkid⟩ := kid_at hr (by omega)
  obtain ⟨u0, hc0, hr0⟩ := hkid 0 (by omega)
  simp only [Nat.zero_mul, Nat.add_zero] at hc0
  have hlt0 : 0 < T.len := by omega
  have hval : T.val (.slice (some ⟨g, off, none⟩) T.len cap) = .agg #[.int .i64 9, .int .i64 T.num, .string T.name, .slice (some ⟨g, off, none⟩) T.len cap] := by unfold Nd.val; rw [hk]
  rw [hval]
  have HP := hid_mk (Pst.startB hbuf (.cells #[.int .i64 9, .int .i64 T.num, .string T.name, .slice (some ⟨g, off, none⟩) T.len cap] 30))
  have HN := hid_mk (Pst.node hbuf (.int .i64 9) (.int .i64 T.num) (.string T.name) (.slice (some ⟨g, off, none⟩) T.len cap) 30)
  have HC0 := hid_mk (fun Y W (h : Pst ob own (w.alloc (.cells #[.int .i64 9, .int .i64 T.num, .string T.name, .slice (some ⟨g, off, none⟩) T.len cap] 30)) Y W) => hc0 W (h.belowB hbuf))
  have HR0 := hid_mk (row_alloc hbuf hr0 (.cells #[.int .i64 9, .int .i64 T.num, .string T.name, .slice (some ⟨g, off, none⟩) T.len cap] 30))
  have HI0 := hid_mk (ex_all (T.kids 0))
  have HF0 := hid_mk (Nd.fine_kid hf hlt0)
  have HB := hid_mk hb
  clear hlen hE0 hb hr hf hok hbuf hk hval hc0 hr0 hkid hcap
  obtain ⟨c00, c01, c02, c03⟩ := HC0.out _ _ HP.out
  generalize T.kids 0 = K0 at *
  generalize T.name = ts at *
  generalize T.num = tn at *
  go_enter Tryz.func46, Tryz.ntmps46
  go_wp2_with (first
    | (go_at_call_of 59 u0; refine (HP.out.expr HI0.out 1 u0 HF0.out HR0.out HE0.out (by decide) (by have := HB.out; simp at this ⊢; omega)).mono ?_; rintro e w2 ⟨rfl, hp⟩; obtain ⟨b0, b1, b2, b3⟩ := HN.out _ _ hp; obtain ⟨c00, c01, c02, c03⟩ := HC0.out _ _ hp; have HP := hid_mk hp; clear hp))
  go_end0
  exact HP.out.addsB (by simp)

set_option maxHeartbeats 4000000 in
set_option maxRecDepth 100000 in
theorem st_12a (T : Nd) (hk : T.kind = 12) (h0 : T.len = 0) : SmC T := by
  intro ob own X d w v hbuf hf hr hok hb
  have hn := T.fine_len hf
  rw [st_text_12 T hk] at hb ⊢
  rw [if_pos h0] at hb ⊢
  obtain ⟨a, cap, rfl, _⟩ := row_eq.1 hr
  have hval : T.val (.slice a T.len cap) = .agg #[.int .i64 12, .int .i64 T.num, .string T.name, .slice a 0 cap] := by unfold Nd.val; rw [hk, h0]
  rw [hval]
  have HP := hid_mk (Pst.startB hbuf (.cells #[.int .i64 12, .int .i64 T.num, .string T.name, .slice a 0 cap] 30))
  have HN := hid_mk (Pst.node hbuf (.int .i64 12) (.int .i64 T.num) (.string T.name) (.slice a 0 cap) 30)
  have HB := hid_mk hb
  clear h0 hb hr hf hok hbuf hk hval
  generalize T.name = ts at *
  generalize T.num = tn at *
  go_enter Tryz.func46, Tryz.ntmps46
  go_wp2_with (first
    | (go_at_call 19; refine (HP.out.add _ (by have := HB.out; simp at this ⊢; omega)).mono ?_; rintro e w2 ⟨rfl, hp⟩; obtain ⟨b0, b1, b2, b3⟩ := HN.out _ _ hp; have HP := hid_mk hp; clear hp))
  go_end0
  exact HP.out.addsB (by simp)

set_option maxHeartbeats 4000000 in
set_option maxRecDepth 100000 in
theorem st_12b (T : Nd) (hk : T.kind = 12) (h0 : ¬ T.len = 0) : SmC T := by
  intro ob own X d w v hbuf hf hr hok hb
  have hn := T.fine_len hf
  rw [st_text_12 T hk] at hb ⊢
  have hE := st_ok_12 hk hok
  rw [if_neg h0] at hb ⊢
  have hlt : 0 < T.len := by omega
  obtain ⟨a, cap, rfl, _⟩ := row_eq.1 hr
  have hval : T.val (.slice a T.len cap) = .agg #[.int .i64 12, .int .i64 T.num, .string T.name, .slice a T.len cap] := by unfold Nd.val; rw [hk]
  rw [hval]
  have HP := hid_mk (Pst.startB hbuf (.cells #[.int .i64 12, .int .i64 T.num, .string T.name, .slice a T.len cap] 30))
  have HN := hid_mk (Pst.node hbuf (.int .i64 12) (.int .i64 T.num) (.string T.name) (.slice a T.len cap) 30)
  have HW := hid_mk (fun Y W s (h : Pst ob own (w.alloc (.cells #[.int .i64 12, .int .i64 T.num, .string T.name, .slice a T.len cap] 30)) Y W) hb => h.word (T := T) s (.slice a T.len cap) hf (row_alloc hbuf hr (.cells #[.int .i64 12, .int .i64 T.num, .string T.name, .slice a T.len cap] 30)) hE hb)
  rw [hval] at HW
  have HB := hid_mk hb
  clear hE h0 hb hr hf hok hbuf hk hval
  generalize (if T.len = 0 then [] else (prN (T.kids 0)).ex 1) = tail at *
  generalize T.name = ts at *
  generalize T.num = tn at *
  go_enter Tryz.func46, Tryz.ntmps46
  go_wp2_with (first
    | (go_at_call 58; refine (HW.out _ _ _ HP.out (by have := HB.out; simp at this ⊢; omega)).mono ?_; rintro e w2 ⟨rfl, hp⟩; obtain ⟨b0, b1, b2, b3⟩ := HN.out _ _ hp; have HP := hid_mk hp; clear hp))
  go_end0
  exact HP.out.addsB (by simp)

end Go.Proofs.YtacamenjijlemaaGreatDoor
