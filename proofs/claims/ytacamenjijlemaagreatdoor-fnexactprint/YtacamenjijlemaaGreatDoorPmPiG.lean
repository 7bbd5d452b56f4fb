/- The program's printer: statements. -/
import Derived.Test.YtacamenjijlemaaGreatDoorPmPiA
import Derived.Test.YtacamenjijlemaaGreatDoorPmPiF
import Derived.Deep.RegionHeld3
import Derived.StillTailTactics
import Derived.WalkSpells
import Derived.WalkSmall
set_option linter.unusedVariables false
namespace Go.Proofs.YtacamenjijlemaaGreatDoor
open Go.RowKit
theorem IPst.setw {T : Nd} (s : ByteArray) (h0 : T.len ≠ 0) (ih : IEx (T.kids 0)) (hok : (T.kids 0).eOk = true) {pb : Nat} {own0 : Option Nat} {w0 w : World} {d : Nat} {b : Bool} {Y : List UInt8} (h : IPst pb own0 w0 d b Y w) (v : Value) (hg : Gl pb w0) (hf : T.Fine) (hr : Row 0 pb w0 T v) (hb : Y.length + ((ahead d b).length + (T.name.data.toList ++ (s.data.toList ++ (prN (T.kids 0)).ex 1)).length) ≤ 1099511627776) :
    Calls Tryz.prog 80 #[.pointer (some ⟨pb, 0, none⟩), T.val v, .string s] w fun e w' => (∃ r, e = .returned r) ∧ IPst pb own0 w0 d true (Y ++ (ahead d b ++ (T.name.data.toList ++ (s.data.toList ++ (prN (T.kids 0)).ex 1)))) w' :=
  h.lift fun own hbuf => set_of T s h0 ih hok pb own Y d b w v hbuf (hg.keep h.below) hf (row_below h.below (Nat.le_refl _) hr) hb

set_option maxHeartbeats 4000000 in
set_option maxRecDepth 100000 in
theorem is_4 (T : Nd) (hk : T.kind = 4) (hW : IW 40 T (fun d => (prN T).st d)) : IW 71 T (fun d => (prN T).st d) := by
  intro pb own X d b w v hbuf hg hf hr hb
  dsimp only at hb ⊢
  have hn := T.fine_len hf
  obtain ⟨a, cap, rfl, _⟩ := row_eq.1 hr
  have hval : T.val (.slice a T.len cap) = .agg #[.int .i64 4, .int .i64 T.num, .string T.name, .slice a T.len cap] := by unfold Nd.val; rw [hk]
  rw [hval]
  have hb0 : Below w.heap.size w (w.alloc (.cells #[.int .i64 4, .int .i64 T.num, .string T.name, .slice a T.len cap] 30)) := ((Below.refl w.heap.size w).alloc (Nat.le_refl _) _)
  have HP := hid_mk (IPst.startOn hbuf hb0)
  have HN := hid_mk (fun d' b' Y W (h : IPst pb own (w.alloc (.cells #[.int .i64 4, .int .i64 T.num, .string T.name, .slice a T.len cap] 30)) d' b' Y W) => (show W.cell? ⟨w.heap.size, 0, none⟩ = some (.int .i64 4) ∧ W.cell? ⟨w.heap.size, 1, none⟩ = some (.int .i64 T.num) ∧ W.cell? ⟨w.heap.size, 2, none⟩ = some (.string T.name) ∧ W.cell? ⟨w.heap.size, 3, none⟩ = some (.slice a T.len cap) by
    have e := h.kept hbuf w.heap.size (Nat.le_refl _) (by simp)
    rw [e, e, e, e]; refine ⟨?_, ?_, ?_, ?_⟩ <;> simp [go_sem]))
  have HG := hid_mk (gl_on hbuf hb0 hg)
  have HB0 := hid_mk hb0
  have HV := hid_mk (fun b' Y W (h : IPst pb own (w.alloc (.cells #[.int .i64 4, .int .i64 T.num, .string T.name, .slice a T.len cap] 30)) d b' Y W) hb => h.fn hW (.slice a T.len cap) (gl_on hbuf hb0 hg) hf (row_on hbuf hb0 hr) hb)
  rw [hval] at HV
  have HB := hid_mk hb
  clear hk hW hb hr hf hbuf hg hval hb0
  generalize (prN T).st d = tx at *
  generalize T.name = ts at *
  generalize T.num = tn at *
  go_enter Tryz.func71, Tryz.ntmps71
  go_wp2_with (go_at_call 40; refine (HV.out _ _ _ HP.out HB.out).mono ?_; rintro e w2 ⟨⟨r, rfl⟩, hp⟩; have HP := hid_mk hp; clear hp)
  go_end0
  exact IPst.addsOn HB0.out HP.out rfl _

set_option maxHeartbeats 4000000 in
set_option maxRecDepth 100000 in
theorem is_7 (T : Nd) (hk : T.kind = 7) (hW : IW 81 T (fun d => (prN T).st d)) : IW 71 T (fun d => (prN T).st d) := by
  intro pb own X d b w v hbuf hg hf hr hb
  dsimp only at hb ⊢
  have hn := T.fine_len hf
  obtain ⟨a, cap, rfl, _⟩ := row_eq.1 hr
  have hval : T.val (.slice a T.len cap) = .agg #[.int .i64 7, .int .i64 T.num, .string T.name, .slice a T.len cap] := by unfold Nd.val; rw [hk]
  rw [hval]
  have hb0 : Below w.heap.size w (w.alloc (.cells #[.int .i64 7, .int .i64 T.num, .string T.name, .slice a T.len cap] 30)) := ((Below.refl w.heap.size w).alloc (Nat.le_refl _) _)
  have HP := hid_mk (IPst.startOn hbuf hb0)
  have HN := hid_mk (fun d' b' Y W (h : IPst pb own (w.alloc (.cells #[.int .i64 7, .int .i64 T.num, .string T.name, .slice a T.len cap] 30)) d' b' Y W) => (show W.cell? ⟨w.heap.size, 0, none⟩ = some (.int .i64 7) ∧ W.cell? ⟨w.heap.size, 1, none⟩ = some (.int .i64 T.num) ∧ W.cell? ⟨w.heap.size, 2, none⟩ = some (.string T.name) ∧ W.cell? ⟨w.heap.size, 3, none⟩ = some (.slice a T.len cap) by
    have e := h.kept hbuf w.heap.size (Nat.le_refl _) (by simp)
    rw [e, e, e, e]; refine ⟨?_, ?_, ?_, ?_⟩ <;> simp [go_sem]))
  have HG := hid_mk (gl_on hbuf hb0 hg)
  have HB0 := hid_mk hb0
  have HV := hid_mk (fun b' Y W (h : IPst pb own (w.alloc (.cells #[.int .i64 7, .int .i64 T.num, .string T.name, .slice a T.len cap] 30)) d b' Y W) hb => h.fn hW (.slice a T.len cap) (gl_on hbuf hb0 hg) hf (row_on hbuf hb0 hr) hb)
  rw [hval] at HV
  have HB := hid_mk hb
  clear hk hW hb hr hf hbuf hg hval hb0
  generalize (prN T).st d = tx at *
  generalize T.name = ts at *
  generalize T.num = tn at *
  go_enter Tryz.func71, Tryz.ntmps71
  go_wp2_with (go_at_call 81; refine (HV.out _ _ _ HP.out HB.out).mono ?_; rintro e w2 ⟨⟨r, rfl⟩, hp⟩; have HP := hid_mk hp; clear hp)
  go_end0
  exact IPst.addsOn HB0.out HP.out rfl _

set_option maxHeartbeats 4000000 in
set_option maxRecDepth 100000 in
theorem is_10 (T : Nd) (hk : T.kind = 10) (hW : IW 84 T (fun d => (prN T).st d)) : IW 71 T (fun d => (prN T).st d) := by
  intro pb own X d b w v hbuf hg hf hr hb
  dsimp only at hb ⊢
  have hn := T.fine_len hf
  obtain ⟨a, cap, rfl, _⟩ := row_eq.1 hr
  have hval : T.val (.slice a T.len cap) = .agg #[.int .i64 10, .int .i64 T.num, .string T.name, .slice a T.len cap] := by unfold Nd.val; rw [hk]
  rw [hval]
  have hb0 : Below w.heap.size w (w.alloc (.cells #[.int .i64 10, .int .i64 T.num, .string T.name, .slice a T.len cap] 30)) := ((Below.refl w.heap.size w).alloc (Nat.le_refl _) _)
  have HP := hid_mk (IPst.startOn hbuf hb0)
  have HN := hid_mk (fun d' b' Y W (h : IPst pb own (w.alloc (.cells #[.int .i64 10, .int .i64 T.num, .string T.name, .slice a T.len cap] 30)) d' b' Y W) => (show W.cell? ⟨w.heap.size, 0, none⟩ = some (.int .i64 10) ∧ W.cell? ⟨w.heap.size, 1, none⟩ = some (.int .i64 T.num) ∧ W.cell? ⟨w.heap.size, 2, none⟩ = some (.string T.name) ∧ W.cell? ⟨w.heap.size, 3, none⟩ = some (.slice a T.len cap) by
    have e := h.kept hbuf w.heap.size (Nat.le_refl _) (by simp)
    rw [e, e, e, e]; refine ⟨?_, ?_, ?_, ?_⟩ <;> simp [go_sem]))
  have HG := hid_mk (gl_on hbuf hb0 hg)
  have HB0 := hid_mk hb0
  have HV := hid_mk (fun b' Y W (h : IPst pb own (w.alloc (.cells #[.int .i64 10, .int .i64 T.num, .string T.name, .slice a T.len cap] 30)) d b' Y W) hb => h.fn hW (.slice a T.len cap) (gl_on hbuf hb0 hg) hf (row_on hbuf hb0 hr) hb)
  rw [hval] at HV
  have HB := hid_mk hb
  clear hk hW hb hr hf hbuf hg hval hb0
  generalize (prN T).st d = tx at *
  generalize T.name = ts at *
  generalize T.num = tn at *
  go_enter Tryz.func71, Tryz.ntmps71
  go_wp2_with (go_at_call 84; refine (HV.out _ _ _ HP.out HB.out).mono ?_; rintro e w2 ⟨⟨r, rfl⟩, hp⟩; have HP := hid_mk hp; clear hp)
  go_end0
  exact IPst.addsOn HB0.out HP.out rfl _

set_option maxHeartbeats 4000000 in
set_option maxRecDepth 100000 in
theorem is_11 (T : Nd) (hk : T.kind = 11) (hW : IW 85 T (fun d => (prN T).st d)) : IW 71 T (fun d => (prN T).st d) := by
  intro pb own X d b w v hbuf hg hf hr hb
  dsimp only at hb ⊢
  have hn := T.fine_len hf
  obtain ⟨a, cap, rfl, _⟩ := row_eq.1 hr
  have hval : T.val (.slice a T.len cap) = .agg #[.int .i64 11, .int .i64 T.num, .string T.name, .slice a T.len cap] := by unfold Nd.val; rw [hk]
  rw [hval]
  have hb0 : Below w.heap.size w (w.alloc (.cells #[.int .i64 11, .int .i64 T.num, .string T.name, .slice a T.len cap] 30)) := ((Below.refl w.heap.size w).alloc (Nat.le_refl _) _)
  have HP := hid_mk (IPst.startOn hbuf hb0)
  have HN := hid_mk (fun d' b' Y W (h : IPst pb own (w.alloc (.cells #[.int .i64 11, .int .i64 T.num, .string T.name, .slice a T.len cap] 30)) d' b' Y W) => (show W.cell? ⟨w.heap.size, 0, none⟩ = some (.int .i64 11) ∧ W.cell? ⟨w.heap.size, 1, none⟩ = some (.int .i64 T.num) ∧ W.cell? ⟨w.heap.size, 2, none⟩ = some (.string T.name) ∧ W.cell? ⟨w.heap.size, 3, none⟩ = some (.slice a T.len cap) by
    have e := h.kept hbuf w.heap.size (Nat.le_refl _) (by simp)
    rw [e, e, e, e]; refine ⟨?_, ?_, ?_, ?_⟩ <;> simp [go_sem]))
  have HG := hid_mk (gl_on hbuf hb0 hg)
  have HB0 := hid_mk hb0
  have HV := hid_mk (fun b' Y W (h : IPst pb own (w.alloc (.cells #[.int .i64 11, .int .i64 T.num, .string T.name, .slice a T.len cap] 30)) d b' Y W) hb => h.fn hW (.slice a T.len cap) (gl_on hbuf hb0 hg) hf (row_on hbuf hb0 hr) hb)
  rw [hval] at HV
  have HB := hid_mk hb
  clear hk hW hb hr hf hbuf hg hval hb0
  generalize (prN T).st d = tx at *
  generalize T.name = ts at *
  generalize T.num = tn at *
  go_enter Tryz.func71, Tryz.ntmps71
  go_wp2_with (go_at_call 85; refine (HV.out _ _ _ HP.out HB.out).mono ?_; rintro e w2 ⟨⟨r, rfl⟩, hp⟩; have HP := hid_mk hp; clear hp)
  go_end0
  exact IPst.addsOn HB0.out HP.out rfl _

set_option maxHeartbeats 4000000 in
set_option maxRecDepth 100000 in
theorem is_15 (T : Nd) (hk : T.kind = 15) (hW : IW 87 T (fun d => (prN T).st d)) : IW 71 T (fun d => (prN T).st d) := by
  intro pb own X d b w v hbuf hg hf hr hb
  dsimp only at hb ⊢
  have hn := T.fine_len hf
  obtain ⟨a, cap, rfl, _⟩ := row_eq.1 hr
  have hval : T.val (.slice a T.len cap) = .agg #[.int .i64 15, .int .i64 T.num, .string T.name, .slice a T.len cap] := by unfold Nd.val; rw [hk]
  rw [hval]
  have hb0 : Below w.heap.size w (w.alloc (.cells #[.int .i64 15, .int .i64 T.num, .string T.name, .slice a T.len cap] 30)) := ((Below.refl w.heap.size w).alloc (Nat.le_refl _) _)
  have HP := hid_mk (IPst.startOn hbuf hb0)
  have HN := hid_mk (fun d' b' Y W (h : IPst pb own (w.alloc (.cells #[.int .i64 15, .int .i64 T.num, .string T.name, .slice a T.len cap] 30)) d' b' Y W) => (show W.cell? ⟨w.heap.size, 0, none⟩ = some (.int .i64 15) ∧ W.cell? ⟨w.heap.size, 1, none⟩ = some (.int .i64 T.num) ∧ W.cell? ⟨w.heap.size, 2, none⟩ = some (.string T.name) ∧ W.cell? ⟨w.heap.size, 3, none⟩ = some (.slice a T.len cap) by
    have e := h.kept hbuf w.heap.size (Nat.le_refl _) (by simp)
    rw [e, e, e, e]; refine ⟨?_, ?_, ?_, ?_⟩ <;> simp [go_sem]))
  have HG := hid_mk (gl_on hbuf hb0 hg)
  have HB0 := hid_mk hb0
  have HV := hid_mk (fun b' Y W (h : IPst pb own (w.alloc (.cells #[.int .i64 15, .int .i64 T.num, .string T.name, .slice a T.len cap] 30)) d b' Y W) hb => h.fn hW (.slice a T.len cap) (gl_on hbuf hb0 hg) hf (row_on hbuf hb0 hr) hb)
  rw [hval] at HV
  have HB := hid_mk hb
  clear hk hW hb hr hf hbuf hg hval hb0
  generalize (prN T).st d = tx at *
  generalize T.name = ts at *
  generalize T.num = tn at *
  go_enter Tryz.func71, Tryz.ntmps71
  go_wp2_with (go_at_call 87; refine (HV.out _ _ _ HP.out HB.out).mono ?_; rintro e w2 ⟨⟨r, rfl⟩, hp⟩; have HP := hid_mk hp; clear hp)
  go_end0
  exact IPst.addsOn HB0.out HP.out rfl _
theorem set_text_5 {T : Nd} (hk : T.kind = 5) (h0 : T.len ≠ 0) (d : Nat) : (prN T).st d = T.name.data.toList ++ ([32, 58, 61, 32] ++ (prN (T.kids 0)).ex 1) := by
  rw [st_text_5 T hk, if_neg h0]; simp

set_option maxHeartbeats 4000000 in
set_option maxRecDepth 100000 in
theorem is_5 (T : Nd) (hk : T.kind = 5) (h0 : T.len ≠ 0) (ih : IEx (T.kids 0)) (hok : (T.kids 0).eOk = true) : IW 71 T (fun d => (prN T).st d) := by
  intro pb own X d b w v hbuf hg hf hr hb
  dsimp only at hb ⊢
  have hn := T.fine_len hf
  rw [set_text_5 hk h0] at hb ⊢
  obtain ⟨a, cap, rfl, _⟩ := row_eq.1 hr
  have hval : T.val (.slice a T.len cap) = .agg #[.int .i64 5, .int .i64 T.num, .string T.name, .slice a T.len cap] := by unfold Nd.val; rw [hk]
  rw [hval]
  have hb0 : Below w.heap.size w (w.alloc (.cells #[.int .i64 5, .int .i64 T.num, .string T.name, .slice a T.len cap] 30)) := ((Below.refl w.heap.size w).alloc (Nat.le_refl _) _)
  have HP := hid_mk (IPst.startOn hbuf hb0)
  have HN := hid_mk (fun d' b' Y W (h : IPst pb own (w.alloc (.cells #[.int .i64 5, .int .i64 T.num, .string T.name, .slice a T.len cap] 30)) d' b' Y W) => (show W.cell? ⟨w.heap.size, 0, none⟩ = some (.int .i64 5) ∧ W.cell? ⟨w.heap.size, 1, none⟩ = some (.int .i64 T.num) ∧ W.cell? ⟨w.heap.size, 2, none⟩ = some (.string T.name) ∧ W.cell? ⟨w.heap.size, 3, none⟩ = some (.slice a T.len cap) by
    have e := h.kept hbuf w.heap.size (Nat.le_refl _) (by simp)
    rw [e, e, e, e]; refine ⟨?_, ?_, ?_, ?_⟩ <;> simp [go_sem]))
  have HG := hid_mk (gl_on hbuf hb0 hg)
  have HB0 := hid_mk hb0
  have HV := hid_mk (fun b' Y W (h : IPst pb own (w.alloc (.cells #[.int .i64 5, .int .i64 T.num, .string T.name, .slice a T.len cap] 30)) d b' Y W) hb => h.setw ⟨#[32, 58, 61, 32]⟩ h0 ih hok (.slice a T.len cap) (gl_on hbuf hb0 hg) hf (row_on hbuf hb0 hr) hb)
  rw [hval] at HV
  have HB := hid_mk hb
  clear hk h0 ih hok hb hr hf hbuf hg hval hb0
  generalize T.name = ts at *
  generalize T.num = tn at *
  go_enter Tryz.func71, Tryz.ntmps71
  go_wp2_with (go_at_call 80; refine (HV.out _ _ _ HP.out HB.out).mono ?_; rintro e w2 ⟨⟨r, rfl⟩, hp⟩; have HP := hid_mk hp; clear hp)
  go_end0
  exact IPst.addsOn HB0.out HP.out rfl _
theorem set_text_6 {T : Nd} (hk : T.kind = 6) (h0 : T.len ≠ 0) (d : Nat) : (prN T).st d = T.name.data.toList ++ ([32, 61, 32] ++ (prN (T.kids 0)).ex 1) := by
  rw [st_text_6 T hk, if_neg h0]; simp

set_option maxHeartbeats 4000000 in
set_option maxRecDepth 100000 in
theorem is_6 (T : Nd) (hk : T.kind = 6) (h0 : T.len ≠ 0) (ih : IEx (T.kids 0)) (hok : (T.kids 0).eOk = true) : IW 71 T (fun d => (prN T).st d) := by
  intro pb own X d b w v hbuf hg hf hr hb
  dsimp only at hb ⊢
  have hn := T.fine_len hf
  rw [set_text_6 hk h0] at hb ⊢
  obtain ⟨a, cap, rfl, _⟩ := row_eq.1 hr
  have hval : T.val (.slice a T.len cap) = .agg #[.int .i64 6, .int .i64 T.num, .string T.name, .slice a T.len cap] := by unfold Nd.val; rw [hk]
  rw [hval]
  have hb0 : Below w.heap.size w (w.alloc (.cells #[.int .i64 6, .int .i64 T.num, .string T.name, .slice a T.len cap] 30)) := ((Below.refl w.heap.size w).alloc (Nat.le_refl _) _)
  have HP := hid_mk (IPst.startOn hbuf hb0)
  have HN := hid_mk (fun d' b' Y W (h : IPst pb own (w.alloc (.cells #[.int .i64 6, .int .i64 T.num, .string T.name, .slice a T.len cap] 30)) d' b' Y W) => (show W.cell? ⟨w.heap.size, 0, none⟩ = some (.int .i64 6) ∧ W.cell? ⟨w.heap.size, 1, none⟩ = some (.int .i64 T.num) ∧ W.cell? ⟨w.heap.size, 2, none⟩ = some (.string T.name) ∧ W.cell? ⟨w.heap.size, 3, none⟩ = some (.slice a T.len cap) by
    have e := h.kept hbuf w.heap.size (Nat.le_refl _) (by simp)
    rw [e, e, e, e]; refine ⟨?_, ?_, ?_, ?_⟩ <;> simp [go_sem]))
  have HG := hid_mk (gl_on hbuf hb0 hg)
  have HB0 := hid_mk hb0
  have HV := hid_mk (fun b' Y W (h : IPst pb own (w.alloc (.cells #[.int .i64 6, .int .i64 T.num, .string T.name, .slice a T.len cap] 30)) d b' Y W) hb => h.setw ⟨#[32, 61, 32]⟩ h0 ih hok (.slice a T.len cap) (gl_on hbuf hb0 hg) hf (row_on hbuf hb0 hr) hb)
  rw [hval] at HV
  have HB := hid_mk hb
  clear hk h0 ih hok hb hr hf hbuf hg hval hb0
  generalize T.name = ts at *
  generalize T.num = tn at *
  go_enter Tryz.func71, Tryz.ntmps71
  go_wp2_with (go_at_call 80; refine (HV.out _ _ _ HP.out HB.out).mono ?_; rintro e w2 ⟨⟨r, rfl⟩, hp⟩; have HP := hid_mk hp; clear hp)
  go_end0
  exact IPst.addsOn HB0.out HP.out rfl _
theorem word_text_12 {T : Nd} (hk : T.kind = 12) (h1 : T.len ≤ 1) (d : Nat) : (prN T).st d = [114, 101, 116, 117, 114, 110] ++ catTo (fun i => [32] ++ (prN (T.kids i)).ex 1) T.len := by
  rw [st_text_12 T hk]
  have h : T.len = 0 ∨ T.len = 1 := by omega
  rcases h with h | h <;> simp [h, catTo]

set_option maxHeartbeats 4000000 in
set_option maxRecDepth 100000 in
theorem is_12 (T : Nd) (hk : T.kind = 12) (h1 : T.len ≤ 1) (hW : ∀ i, i < T.len → IW 83 (T.kids i) (fun _ => (prN (T.kids i)).ex 1)) : IW 71 T (fun d => (prN T).st d) := by
  intro pb own X d b w v hbuf hg hf hr hb
  dsimp only at hb ⊢
  have hn := T.fine_len hf
  rw [word_text_12 hk h1] at hb ⊢
  obtain ⟨a, cap, rfl, _⟩ := row_eq.1 hr
  have hval : T.val (.slice a T.len cap) = .agg #[.int .i64 12, .int .i64 T.num, .string T.name, .slice a T.len cap] := by unfold Nd.val; rw [hk]
  rw [hval]
  have hb0 : Below w.heap.size w (w.alloc (.cells #[.int .i64 12, .int .i64 T.num, .string T.name, .slice a T.len cap] 30)) := ((Below.refl w.heap.size w).alloc (Nat.le_refl _) _)
  have HP := hid_mk (IPst.startOn hbuf hb0)
  have HN := hid_mk (fun d' b' Y W (h : IPst pb own (w.alloc (.cells #[.int .i64 12, .int .i64 T.num, .string T.name, .slice a T.len cap] 30)) d' b' Y W) => (show W.cell? ⟨w.heap.size, 0, none⟩ = some (.int .i64 12) ∧ W.cell? ⟨w.heap.size, 1, none⟩ = some (.int .i64 T.num) ∧ W.cell? ⟨w.heap.size, 2, none⟩ = some (.string T.name) ∧ W.cell? ⟨w.heap.size, 3, none⟩ = some (.slice a T.len cap) by
    have e := h.kept hbuf w.heap.size (Nat.le_refl _) (by simp)
    rw [e, e, e, e]; refine ⟨?_, ?_, ?_, ?_⟩ <;> simp [go_sem]))
  have HG := hid_mk (gl_on hbuf hb0 hg)
  have HB0 := hid_mk hb0
  have HV := hid_mk (fun b' Y W (h : IPst pb own (w.alloc (.cells #[.int .i64 12, .int .i64 T.num, .string T.name, .slice a T.len cap] 30)) d b' Y W) hb => h.worded ⟨#[114, 101, 116, 117, 114, 110]⟩ (Nat.le_refl T.len) hW a cap (gl_on hbuf hb0 hg) hf (row_on hbuf hb0 hr) hb)
  have HB := hid_mk hb
  clear hk h1 hW hb hr hf hbuf hg hval hb0
  generalize catTo (fun i => [32] ++ (prN (T.kids i)).ex 1) T.len = tx at *
  generalize T.name = ts at *
  generalize T.num = tn at *
  go_enter Tryz.func71, Tryz.ntmps71
  go_wp2_with (go_at_call 86; refine (HV.out _ _ _ HP.out HB.out).mono ?_; rintro e w2 ⟨⟨r, rfl⟩, hp⟩; have HP := hid_mk hp; clear hp)
  go_end0
  exact IPst.addsOn HB0.out HP.out rfl _
theorem word_text_13 {T : Nd} (hk : T.kind = 13) (h1 : T.len = 1) (d : Nat) : (prN T).st d = [103, 111] ++ catTo (fun i => [32] ++ (prN (T.kids i)).ex 1) T.len := by
  rw [st_text_13 T hk]
  have h : T.len = 0 ∨ T.len = 1 := by omega
  rcases h with h | h
  · omega
  · simp [h, catTo]

set_option maxHeartbeats 4000000 in
set_option maxRecDepth 100000 in
theorem is_13 (T : Nd) (hk : T.kind = 13) (h1 : T.len = 1) (hW : ∀ i, i < T.len → IW 83 (T.kids i) (fun _ => (prN (T.kids i)).ex 1)) : IW 71 T (fun d => (prN T).st d) := by
  intro pb own X d b w v hbuf hg hf hr hb
  dsimp only at hb ⊢
  have hn := T.fine_len hf
  rw [word_text_13 hk h1] at hb ⊢
  obtain ⟨a, cap, rfl, _⟩ := row_eq.1 hr
  have hval : T.val (.slice a T.len cap) = .agg #[.int .i64 13, .int .i64 T.num, .string T.name, .slice a T.len cap] := by unfold Nd.val; rw [hk]
  rw [hval]
  have hb0 : Below w.heap.size w (w.alloc (.cells #[.int .i64 13, .int .i64 T.num, .string T.name, .slice a T.len cap] 30)) := ((Below.refl w.heap.size w).alloc (Nat.le_refl _) _)
  have HP := hid_mk (IPst.startOn hbuf hb0)
  have HN := hid_mk (fun d' b' Y W (h : IPst pb own (w.alloc (.cells #[.int .i64 13, .int .i64 T.num, .string T.name, .slice a T.len cap] 30)) d' b' Y W) => (show W.cell? ⟨w.heap.size, 0, none⟩ = some (.int .i64 13) ∧ W.cell? ⟨w.heap.size, 1, none⟩ = some (.int .i64 T.num) ∧ W.cell? ⟨w.heap.size, 2, none⟩ = some (.string T.name) ∧ W.cell? ⟨w.heap.size, 3, none⟩ = some (.slice a T.len cap) by
    have e := h.kept hbuf w.heap.size (Nat.le_refl _) (by simp)
    rw [e, e, e, e]; refine ⟨?_, ?_, ?_, ?_⟩ <;> simp [go_sem]))
  have HG := hid_mk (gl_on hbuf hb0 hg)
  have HB0 := hid_mk hb0
  have HV := hid_mk (fun b' Y W (h : IPst pb own (w.alloc (.cells #[.int .i64 13, .int .i64 T.num, .string T.name, .slice a T.len cap] 30)) d b' Y W) hb => h.worded ⟨#[103, 111]⟩ (Nat.le_refl T.len) hW a cap (gl_on hbuf hb0 hg) hf (row_on hbuf hb0 hr) hb)
  have HB := hid_mk hb
  clear hk h1 hW hb hr hf hbuf hg hval hb0
  generalize catTo (fun i => [32] ++ (prN (T.kids i)).ex 1) T.len = tx at *
  generalize T.name = ts at *
  generalize T.num = tn at *
  go_enter Tryz.func71, Tryz.ntmps71
  go_wp2_with (go_at_call 86; refine (HV.out _ _ _ HP.out HB.out).mono ?_; rintro e w2 ⟨⟨r, rfl⟩, hp⟩; have HP := hid_mk hp; clear hp)
  go_end0
  exact IPst.addsOn HB0.out HP.out rfl _
theorem word_text_14 {T : Nd} (hk : T.kind = 14) (h1 : T.len = 1) (d : Nat) : (prN T).st d = [100, 101, 102, 101, 114] ++ catTo (fun i => [32] ++ (prN (T.kids i)).ex 1) T.len := by
  rw [st_text_14 T hk]
  have h : T.len = 0 ∨ T.len = 1 := by omega
  rcases h with h | h
  · omega
  · simp [h, catTo]

set_option maxHeartbeats 4000000 in
set_option maxRecDepth 100000 in
theorem is_14 (T : Nd) (hk : T.kind = 14) (h1 : T.len = 1) (hW : ∀ i, i < T.len → IW 83 (T.kids i) (fun _ => (prN (T.kids i)).ex 1)) : IW 71 T (fun d => (prN T).st d) := by
  intro pb own X d b w v hbuf hg hf hr hb
  dsimp only at hb ⊢
  have hn := T.fine_len hf
  rw [word_text_14 hk h1] at hb ⊢
  obtain ⟨a, cap, rfl, _⟩ := row_eq.1 hr
  have hval : T.val (.slice a T.len cap) = .agg #[.int .i64 14, .int .i64 T.num, .string T.name, .slice a T.len cap] := by unfold Nd.val; rw [hk]
  rw [hval]
  have hb0 : Below w.heap.size w (w.alloc (.cells #[.int .i64 14, .int .i64 T.num, .string T.name, .slice a T.len cap] 30)) := ((Below.refl w.heap.size w).alloc (Nat.le_refl _) _)
  have HP := hid_mk (IPst.startOn hbuf hb0)
  have HN := hid_mk (fun d' b' Y W (h : IPst pb own (w.alloc (.cells #[.int .i64 14, .int .i64 T.num, .string T.name, .slice a T.len cap] 30)) d' b' Y W) => (show W.cell? ⟨w.heap.size, 0, none⟩ = some (.int .i64 14) ∧ W.cell? ⟨w.heap.size, 1, none⟩ = some (.int .i64 T.num) ∧ W.cell? ⟨w.heap.size, 2, none⟩ = some (.string T.name) ∧ W.cell? ⟨w.heap.size, 3, none⟩ = some (.slice a T.len cap) by
    have e := h.kept hbuf w.heap.size (Nat.le_refl _) (by simp)
    rw [e, e, e, e]; refine ⟨?_, ?_, ?_, ?_⟩ <;> simp [go_sem]))
  have HG := hid_mk (gl_on hbuf hb0 hg)
  have HB0 := hid_mk hb0
  have HV := hid_mk (fun b' Y W (h : IPst pb own (w.alloc (.cells #[.int .i64 14, .int .i64 T.num, .string T.name, .slice a T.len cap] 30)) d b' Y W) hb => h.worded ⟨#[100, 101, 102, 101, 114]⟩ (Nat.le_refl T.len) hW a cap (gl_on hbuf hb0 hg) hf (row_on hbuf hb0 hr) hb)
  have HB := hid_mk hb
  clear hk h1 hW hb hr hf hbuf hg hval hb0
  generalize catTo (fun i => [32] ++ (prN (T.kids i)).ex 1) T.len = tx at *
  generalize T.name = ts at *
  generalize T.num = tn at *
  go_enter Tryz.func71, Tryz.ntmps71
  go_wp2_with (go_at_call 86; refine (HV.out _ _ _ HP.out HB.out).mono ?_; rintro e w2 ⟨⟨r, rfl⟩, hp⟩; have HP := hid_mk hp; clear hp)
  go_end0
  exact IPst.addsOn HB0.out HP.out rfl _
theorem call_text_19 {T : Nd} (hk : T.kind = 19) (h1 : T.len = 1) (d : Nat) : (prN T).st d = [99, 108, 111, 115, 101] ++ 40 :: (catTo (fun i => (if i = 0 then [] else [44, 32]) ++ (prN (T.kids i)).ex 1) T.len ++ [41]) := by
  rw [st_text_19 T hk]
  simp [h1, catTo]

set_option maxHeartbeats 4000000 in
set_option maxRecDepth 100000 in
theorem is_19 (T : Nd) (hk : T.kind = 19) (h1 : T.len = 1) (ih : ∀ i, i < T.len → IEx (T.kids i)) (hok : ∀ i, i < T.len → (T.kids i).eOk = true) : IW 71 T (fun d => (prN T).st d) := by
  intro pb own X d b w v hbuf hg hf hr hb
  dsimp only at hb ⊢
  have hn := T.fine_len hf
  rw [call_text_19 hk h1] at hb ⊢
  obtain ⟨a, cap, rfl, _⟩ := row_eq.1 hr
  have hval : T.val (.slice a T.len cap) = .agg #[.int .i64 19, .int .i64 T.num, .string T.name, .slice a T.len cap] := by unfold Nd.val; rw [hk]
  rw [hval]
  have hb0 : Below w.heap.size w (w.alloc (.cells #[.int .i64 19, .int .i64 T.num, .string T.name, .slice a T.len cap] 30)) := ((Below.refl w.heap.size w).alloc (Nat.le_refl _) _)
  have HP := hid_mk (IPst.startOn hbuf hb0)
  have HN := hid_mk (fun d' b' Y W (h : IPst pb own (w.alloc (.cells #[.int .i64 19, .int .i64 T.num, .string T.name, .slice a T.len cap] 30)) d' b' Y W) => (show W.cell? ⟨w.heap.size, 0, none⟩ = some (.int .i64 19) ∧ W.cell? ⟨w.heap.size, 1, none⟩ = some (.int .i64 T.num) ∧ W.cell? ⟨w.heap.size, 2, none⟩ = some (.string T.name) ∧ W.cell? ⟨w.heap.size, 3, none⟩ = some (.slice a T.len cap) by
    have e := h.kept hbuf w.heap.size (Nat.le_refl _) (by simp)
    rw [e, e, e, e]; refine ⟨?_, ?_, ?_, ?_⟩ <;> simp [go_sem]))
  have HG := hid_mk (gl_on hbuf hb0 hg)
  have HB0 := hid_mk hb0
  have HV := hid_mk (fun b' Y W (h : IPst pb own (w.alloc (.cells #[.int .i64 19, .int .i64 T.num, .string T.name, .slice a T.len cap] 30)) d b' Y W) hb => h.callw ⟨#[99, 108, 111, 115, 101]⟩ ih hok (.slice a T.len cap) (gl_on hbuf hb0 hg) hf (row_on hbuf hb0 hr) hb)
  have HB := hid_mk hb
  clear hk h1 ih hok hb hr hf hbuf hg hval hb0
  generalize catTo (fun i => (if i = 0 then [] else [44, 32]) ++ (prN (T.kids i)).ex 1) T.len = tx at *
  generalize T.name = ts at *
  generalize T.num = tn at *
  go_enter Tryz.func71, Tryz.ntmps71
  go_wp2_with (go_at_call 88; refine (HV.out _ _ _ HP.out HB.out).mono ?_; rintro e w2 ⟨⟨r, rfl⟩, hp⟩; have HP := hid_mk hp; clear hp)
  go_end0
  exact IPst.addsOn HB0.out HP.out rfl _
theorem call_text_20 {T : Nd} (hk : T.kind = 20) (h1 : T.len = 1) (d : Nat) : (prN T).st d = [112, 114, 105, 110, 116] ++ 40 :: (catTo (fun i => (if i = 0 then [] else [44, 32]) ++ (prN (T.kids i)).ex 1) T.len ++ [41]) := by
  rw [st_text_20 T hk]
  simp [h1, catTo]

set_option maxHeartbeats 4000000 in
set_option maxRecDepth 100000 in
theorem is_20 (T : Nd) (hk : T.kind = 20) (h1 : T.len = 1) (ih : ∀ i, i < T.len → IEx (T.kids i)) (hok : ∀ i, i < T.len → (T.kids i).eOk = true) : IW 71 T (fun d => (prN T).st d) := by
  intro pb own X d b w v hbuf hg hf hr hb
  dsimp only at hb ⊢
  have hn := T.fine_len hf
  rw [call_text_20 hk h1] at hb ⊢
  obtain ⟨a, cap, rfl, _⟩ := row_eq.1 hr
  have hval : T.val (.slice a T.len cap) = .agg #[.int .i64 20, .int .i64 T.num, .string T.name, .slice a T.len cap] := by unfold Nd.val; rw [hk]
  rw [hval]
  have hb0 : Below w.heap.size w (w.alloc (.cells #[.int .i64 20, .int .i64 T.num, .string T.name, .slice a T.len cap] 30)) := ((Below.refl w.heap.size w).alloc (Nat.le_refl _) _)
  have HP := hid_mk (IPst.startOn hbuf hb0)
  have HN := hid_mk (fun d' b' Y W (h : IPst pb own (w.alloc (.cells #[.int .i64 20, .int .i64 T.num, .string T.name, .slice a T.len cap] 30)) d' b' Y W) => (show W.cell? ⟨w.heap.size, 0, none⟩ = some (.int .i64 20) ∧ W.cell? ⟨w.heap.size, 1, none⟩ = some (.int .i64 T.num) ∧ W.cell? ⟨w.heap.size, 2, none⟩ = some (.string T.name) ∧ W.cell? ⟨w.heap.size, 3, none⟩ = some (.slice a T.len cap) by
    have e := h.kept hbuf w.heap.size (Nat.le_refl _) (by simp)
    rw [e, e, e, e]; refine ⟨?_, ?_, ?_, ?_⟩ <;> simp [go_sem]))
  have HG := hid_mk (gl_on hbuf hb0 hg)
  have HB0 := hid_mk hb0
  have HV := hid_mk (fun b' Y W (h : IPst pb own (w.alloc (.cells #[.int .i64 20, .int .i64 T.num, .string T.name, .slice a T.len cap] 30)) d b' Y W) hb => h.callw ⟨#[112, 114, 105, 110, 116]⟩ ih hok (.slice a T.len cap) (gl_on hbuf hb0 hg) hf (row_on hbuf hb0 hr) hb)
  have HB := hid_mk hb
  clear hk h1 ih hok hb hr hf hbuf hg hval hb0
  generalize catTo (fun i => (if i = 0 then [] else [44, 32]) ++ (prN (T.kids i)).ex 1) T.len = tx at *
  generalize T.name = ts at *
  generalize T.num = tn at *
  go_enter Tryz.func71, Tryz.ntmps71
  go_wp2_with (go_at_call 88; refine (HV.out _ _ _ HP.out HB.out).mono ?_; rintro e w2 ⟨⟨r, rfl⟩, hp⟩; have HP := hid_mk hp; clear hp)
  go_end0
  exact IPst.addsOn HB0.out HP.out rfl _
theorem call_text_21 {T : Nd} (hk : T.kind = 21) (h1 : T.len = 1) (d : Nat) : (prN T).st d = [112, 97, 110, 105, 99] ++ 40 :: (catTo (fun i => (if i = 0 then [] else [44, 32]) ++ (prN (T.kids i)).ex 1) T.len ++ [41]) := by
  rw [st_text_21 T hk]
  simp [h1, catTo]

set_option maxHeartbeats 4000000 in
set_option maxRecDepth 100000 in
theorem is_21 (T : Nd) (hk : T.kind = 21) (h1 : T.len = 1) (ih : ∀ i, i < T.len → IEx (T.kids i)) (hok : ∀ i, i < T.len → (T.kids i).eOk = true) : IW 71 T (fun d => (prN T).st d) := by
  intro pb own X d b w v hbuf hg hf hr hb
  dsimp only at hb ⊢
  have hn := T.fine_len hf
  rw [call_text_21 hk h1] at hb ⊢
  obtain ⟨a, cap, rfl, _⟩ := row_eq.1 hr
  have hval : T.val (.slice a T.len cap) = .agg #[.int .i64 21, .int .i64 T.num, .string T.name, .slice a T.len cap] := by unfold Nd.val; rw [hk]
  rw [hval]
  have hb0 : Below w.heap.size w (w.alloc (.cells #[.int .i64 21, .int .i64 T.num, .string T.name, .slice a T.len cap] 30)) := ((Below.refl w.heap.size w).alloc (Nat.le_refl _) _)
  have HP := hid_mk (IPst.startOn hbuf hb0)
  have HN := hid_mk (fun d' b' Y W (h : IPst pb own (w.alloc (.cells #[.int .i64 21, .int .i64 T.num, .string T.name, .slice a T.len cap] 30)) d' b' Y W) => (show W.cell? ⟨w.heap.size, 0, none⟩ = some (.int .i64 21) ∧ W.cell? ⟨w.heap.size, 1, none⟩ = some (.int .i64 T.num) ∧ W.cell? ⟨w.heap.size, 2, none⟩ = some (.string T.name) ∧ W.cell? ⟨w.heap.size, 3, none⟩ = some (.slice a T.len cap) by
    have e := h.kept hbuf w.heap.size (Nat.le_refl _) (by simp)
    rw [e, e, e, e]; refine ⟨?_, ?_, ?_, ?_⟩ <;> simp [go_sem]))
  have HG := hid_mk (gl_on hbuf hb0 hg)
  have HB0 := hid_mk hb0
  have HV := hid_mk (fun b' Y W (h : IPst pb own (w.alloc (.cells #[.int .i64 21, .int .i64 T.num, .string T.name, .slice a T.len cap] 30)) d b' Y W) hb => h.callw ⟨#[112, 97, 110, 105, 99]⟩ ih hok (.slice a T.len cap) (gl_on hbuf hb0 hg) hf (row_on hbuf hb0 hr) hb)
  have HB := hid_mk hb
  clear hk h1 ih hok hb hr hf hbuf hg hval hb0
  generalize catTo (fun i => (if i = 0 then [] else [44, 32]) ++ (prN (T.kids i)).ex 1) T.len = tx at *
  generalize T.name = ts at *
  generalize T.num = tn at *
  go_enter Tryz.func71, Tryz.ntmps71
  go_wp2_with (go_at_call 88; refine (HV.out _ _ _ HP.out HB.out).mono ?_; rintro e w2 ⟨⟨r, rfl⟩, hp⟩; have HP := hid_mk hp; clear hp)
  go_end0
  exact IPst.addsOn HB0.out HP.out rfl _

set_option maxHeartbeats 4000000 in
set_option maxRecDepth 100000 in
theorem is_17 (T : Nd) (hk : T.kind = 17) : IW 71 T (fun d => (prN T).st d) := by
  intro pb own X d b w v hbuf hg hf hr hb
  dsimp only at hb ⊢
  have hn := T.fine_len hf
  rw [st_text_17 T hk] at hb ⊢
  obtain ⟨a, cap, rfl, _⟩ := row_eq.1 hr
  have hval : T.val (.slice a T.len cap) = .agg #[.int .i64 17, .int .i64 T.num, .string T.name, .slice a T.len cap] := by unfold Nd.val; rw [hk]
  rw [hval]
  have hb0 : Below w.heap.size w (w.alloc (.cells #[.int .i64 17, .int .i64 T.num, .string T.name, .slice a T.len cap] 30)) := ((Below.refl w.heap.size w).alloc (Nat.le_refl _) _)
  have HP := hid_mk (IPst.startOn hbuf hb0)
  have HN := hid_mk (fun d' b' Y W (h : IPst pb own (w.alloc (.cells #[.int .i64 17, .int .i64 T.num, .string T.name, .slice a T.len cap] 30)) d' b' Y W) => (show W.cell? ⟨w.heap.size, 0, none⟩ = some (.int .i64 17) ∧ W.cell? ⟨w.heap.size, 1, none⟩ = some (.int .i64 T.num) ∧ W.cell? ⟨w.heap.size, 2, none⟩ = some (.string T.name) ∧ W.cell? ⟨w.heap.size, 3, none⟩ = some (.slice a T.len cap) by
    have e := h.kept hbuf w.heap.size (Nat.le_refl _) (by simp)
    rw [e, e, e, e]; refine ⟨?_, ?_, ?_, ?_⟩ <;> simp [go_sem]))
  have HG := hid_mk (gl_on hbuf hb0 hg)
  have HB0 := hid_mk hb0
  have HB := hid_mk hb
  clear hk hb hr hf hbuf hg hval hb0
  generalize T.name = ts at *
  generalize T.num = tn at *
  go_enter Tryz.func71, Tryz.ntmps71
  go_wp2_with (first
    | (go_at_call_of 37 w; refine (HP.out.putAt [⟨#[98, 114, 101, 97, 107]⟩] _ 1 _ (by simp) rfl rfl (by decide) (by have := HB.out; simp [txt] at this ⊢; omega)).mono ?_; rintro e w2 ⟨⟨r, rfl⟩, hp⟩; obtain ⟨b0, b1, b2, b3⟩ := HN.out _ _ _ _ hp; have HP := hid_mk hp; clear hp))
  go_end0
  exact IPst.addsOn HB0.out HP.out (by simp [txt]) _

set_option maxHeartbeats 4000000 in
set_option maxRecDepth 100000 in
theorem is_18 (T : Nd) (hk : T.kind = 18) : IW 71 T (fun d => (prN T).st d) := by
  intro pb own X d b w v hbuf hg hf hr hb
  dsimp only at hb ⊢
  have hn := T.fine_len hf
  rw [st_text_18 T hk] at hb ⊢
  obtain ⟨a, cap, rfl, _⟩ := row_eq.1 hr
  have hval : T.val (.slice a T.len cap) = .agg #[.int .i64 18, .int .i64 T.num, .string T.name, .slice a T.len cap] := by unfold Nd.val; rw [hk]
  rw [hval]
  have hb0 : Below w.heap.size w (w.alloc (.cells #[.int .i64 18, .int .i64 T.num, .string T.name, .slice a T.len cap] 30)) := ((Below.refl w.heap.size w).alloc (Nat.le_refl _) _)
  have HP := hid_mk (IPst.startOn hbuf hb0)
  have HN := hid_mk (fun d' b' Y W (h : IPst pb own (w.alloc (.cells #[.int .i64 18, .int .i64 T.num, .string T.name, .slice a T.len cap] 30)) d' b' Y W) => (show W.cell? ⟨w.heap.size, 0, none⟩ = some (.int .i64 18) ∧ W.cell? ⟨w.heap.size, 1, none⟩ = some (.int .i64 T.num) ∧ W.cell? ⟨w.heap.size, 2, none⟩ = some (.string T.name) ∧ W.cell? ⟨w.heap.size, 3, none⟩ = some (.slice a T.len cap) by
    have e := h.kept hbuf w.heap.size (Nat.le_refl _) (by simp)
    rw [e, e, e, e]; refine ⟨?_, ?_, ?_, ?_⟩ <;> simp [go_sem]))
  have HG := hid_mk (gl_on hbuf hb0 hg)
  have HB0 := hid_mk hb0
  have HB := hid_mk hb
  clear hk hb hr hf hbuf hg hval hb0
  generalize T.name = ts at *
  generalize T.num = tn at *
  go_enter Tryz.func71, Tryz.ntmps71
  go_wp2_with (first
    | (go_at_call_of 37 w; refine (HP.out.putAt [⟨#[99, 111, 110, 116, 105, 110, 117, 101]⟩] _ 1 _ (by simp) rfl rfl (by decide) (by have := HB.out; simp [txt] at this ⊢; omega)).mono ?_; rintro e w2 ⟨⟨r, rfl⟩, hp⟩; obtain ⟨b0, b1, b2, b3⟩ := HN.out _ _ _ _ hp; have HP := hid_mk hp; clear hp))
  go_end0
  exact IPst.addsOn HB0.out HP.out (by simp [txt]) _

set_option maxHeartbeats 4000000 in
set_option maxRecDepth 100000 in
theorem is_9 (T : Nd) (hk : T.kind = 9) (h0 : T.len ≠ 0) (ih : IEx (T.kids 0)) (hok : (T.kids 0).eOk = true) : IW 71 T (fun d => (prN T).st d) := by
  intro pb own X d b w v hbuf hg hf hr hb
  dsimp only at hb ⊢
  have hn := T.fine_len hf
  rw [st_text_9 T hk] at hb ⊢
  obtain ⟨g, off, cap, rfl, hgp, hcap, hkid⟩ := kid_at hr (by omega)
  obtain ⟨u0, hc0, hr0⟩ := hkid 0 (by omega)
  simp only [Nat.zero_mul, Nat.add_zero] at hc0
  have hlt0 : 0 < T.len := by omega
  have hval : T.val (.slice (some ⟨g, off, none⟩) T.len cap) = .agg #[.int .i64 9, .int .i64 T.num, .string T.name, .slice (some ⟨g, off, none⟩) T.len cap] := by unfold Nd.val; rw [hk]
  rw [hval]
  have hb0 : Below w.heap.size w (w.alloc (.cells #[.int .i64 9, .int .i64 T.num, .string T.name, .slice (some ⟨g, off, none⟩) T.len cap] 30)) := ((Below.refl w.heap.size w).alloc (Nat.le_refl _) _)
  have HP := hid_mk (IPst.startOn hbuf hb0)
  have HN := hid_mk (fun d' b' Y W (h : IPst pb own (w.alloc (.cells #[.int .i64 9, .int .i64 T.num, .string T.name, .slice (some ⟨g, off, none⟩) T.len cap] 30)) d' b' Y W) => (show W.cell? ⟨w.heap.size, 0, none⟩ = some (.int .i64 9) ∧ W.cell? ⟨w.heap.size, 1, none⟩ = some (.int .i64 T.num) ∧ W.cell? ⟨w.heap.size, 2, none⟩ = some (.string T.name) ∧ W.cell? ⟨w.heap.size, 3, none⟩ = some (.slice (some ⟨g, off, none⟩) T.len cap) by
    have e := h.kept hbuf w.heap.size (Nat.le_refl _) (by simp)
    rw [e, e, e, e]; refine ⟨?_, ?_, ?_, ?_⟩ <;> simp [go_sem]))
  have HG := hid_mk (gl_on hbuf hb0 hg)
  have HB0 := hid_mk hb0
  have HC0 := hid_mk (fun d' b' Y W (h : IPst pb own (w.alloc (.cells #[.int .i64 9, .int .i64 T.num, .string T.name, .slice (some ⟨g, off, none⟩) T.len cap] 30)) d' b' Y W) => hc0 W (h.belowOn hbuf hb0))
  have HR0 := hid_mk (row_on hbuf hb0 hr0)
  have HF0 := hid_mk (Nd.fine_kid hf hlt0)
  have HB := hid_mk hb
  obtain ⟨c00, c01, c02, c03⟩ := HC0.out _ _ _ _ HP.out
  have HI0 := hid_mk ih
  have HE0 := hid_mk hok
  clear hk h0 ih hok hb hr hf hbuf hg hval hb0 hc0 hr0 hkid hcap
  generalize T.kids 0 = K0 at *
  generalize T.name = ts at *
  generalize T.num = tn at *
  go_enter Tryz.func71, Tryz.ntmps71
  go_wp2_with (first
    | (go_at_call_of 83 u0; refine (HP.out.expr HI0.out u0 HG.out HF0.out HR0.out HE0.out (by have := HB.out; simp at this ⊢; omega)).mono ?_; rintro e w2 ⟨⟨r, rfl⟩, hp⟩; obtain ⟨b0, b1, b2, b3⟩ := HN.out _ _ _ _ hp; obtain ⟨c00, c01, c02, c03⟩ := HC0.out _ _ _ _ hp; have HP := hid_mk hp; clear hp))
  go_end0
  exact IPst.addsOn HB0.out HP.out (by simp) _

set_option maxHeartbeats 4000000 in
set_option maxRecDepth 100000 in
theorem is_8 (T : Nd) (hk : T.kind = 8) (h2 : T.len = 2) (i0 : IEx (T.kids 0)) (i1 : IEx (T.kids 1)) (e0 : (T.kids 0).eOk = true) (e1 : (T.kids 1).eOk = true) : IW 71 T (fun d => (prN T).st d) := by
  intro pb own X d b w v hbuf hg hf hr hb
  dsimp only at hb ⊢
  have hn := T.fine_len hf
  rw [st_text_8 T hk] at hb ⊢
  obtain ⟨g, off, cap, rfl, hgp, hcap, hkid⟩ := kid_at hr (by omega)
  obtain ⟨u0, hc0, hr0⟩ := hkid 0 (by omega)
  simp only [Nat.zero_mul, Nat.add_zero] at hc0
  have hlt0 : 0 < T.len := by omega
  obtain ⟨u1, hc1, hr1⟩ := hkid 1 (by omega)
  simp only [Nat.one_mul] at hc1
  have hlt1 : 1 < T.len := by omega
  have hval : T.val (.slice (some ⟨g, off, none⟩) T.len cap) = .agg #[.int .i64 8, .int .i64 T.num, .string T.name, .slice (some ⟨g, off, none⟩) 2 cap] := by unfold Nd.val; rw [hk, h2]
  rw [hval]
  have hb0 : Below w.heap.size w (w.alloc (.cells #[.int .i64 8, .int .i64 T.num, .string T.name, .slice (some ⟨g, off, none⟩) 2 cap] 30)) := ((Below.refl w.heap.size w).alloc (Nat.le_refl _) _)
  have HP := hid_mk (IPst.startOn hbuf hb0)
  have HN := hid_mk (fun d' b' Y W (h : IPst pb own (w.alloc (.cells #[.int .i64 8, .int .i64 T.num, .string T.name, .slice (some ⟨g, off, none⟩) 2 cap] 30)) d' b' Y W) => (show W.cell? ⟨w.heap.size, 0, none⟩ = some (.int .i64 8) ∧ W.cell? ⟨w.heap.size, 1, none⟩ = some (.int .i64 T.num) ∧ W.cell? ⟨w.heap.size, 2, none⟩ = some (.string T.name) ∧ W.cell? ⟨w.heap.size, 3, none⟩ = some (.slice (some ⟨g, off, none⟩) 2 cap) by
    have e := h.kept hbuf w.heap.size (Nat.le_refl _) (by simp)
    rw [e, e, e, e]; refine ⟨?_, ?_, ?_, ?_⟩ <;> simp [go_sem]))
  have HG := hid_mk (gl_on hbuf hb0 hg)
  have HB0 := hid_mk hb0
  have HC0 := hid_mk (fun d' b' Y W (h : IPst pb own (w.alloc (.cells #[.int .i64 8, .int .i64 T.num, .string T.name, .slice (some ⟨g, off, none⟩) 2 cap] 30)) d' b' Y W) => hc0 W (h.belowOn hbuf hb0))
  have HR0 := hid_mk (row_on hbuf hb0 hr0)
  have HF0 := hid_mk (Nd.fine_kid hf hlt0)
  have HC1 := hid_mk (fun d' b' Y W (h : IPst pb own (w.alloc (.cells #[.int .i64 8, .int .i64 T.num, .string T.name, .slice (some ⟨g, off, none⟩) 2 cap] 30)) d' b' Y W) => hc1 W (h.belowOn hbuf hb0))
  have HR1 := hid_mk (row_on hbuf hb0 hr1)
  have HF1 := hid_mk (Nd.fine_kid hf hlt1)
  have HB := hid_mk hb
  obtain ⟨c00, c01, c02, c03⟩ := HC0.out _ _ _ _ HP.out
  obtain ⟨c10, c11, c12, c13⟩ := HC1.out _ _ _ _ HP.out
  have HI0 := hid_mk i0
  have HI1 := hid_mk i1
  have HE0 := hid_mk e0
  have HE1 := hid_mk e1
  clear hk h2 hlt0 hlt1 i0 i1 e0 e1 hb hr hf hbuf hg hval hb0 hc0 hr0 hc1 hr1 hkid hcap
  generalize T.kids 0 = K0 at *
  generalize T.kids 1 = K1 at *
  generalize T.name = ts at *
  generalize T.num = tn at *
  obtain ⟨b0, b1, b2, b3⟩ := HN.out _ _ _ _ HP.out
  go_enter Tryz.func71, Tryz.ntmps71
  go_wp2
  go_region_held3 (fun W => W.cell? ⟨w.heap.size, 3, none⟩ = some (.slice (some ⟨g, off, none⟩) 2 cap) ∧ W.cell? ⟨g, off, none⟩ = some (.int .i64 K0.kind) ∧ W.cell? ⟨g, off + 1, none⟩ = some (.int .i64 K0.num) ∧ W.cell? ⟨g, off + 2, none⟩ = some (.string K0.name) ∧ W.cell? ⟨g, off + 3, none⟩ = some (u0) ∧ W.cell? ⟨g, off + 4, none⟩ = some (.int .i64 K1.kind) ∧ W.cell? ⟨g, off + 4 + 1, none⟩ = some (.int .i64 K1.num) ∧ W.cell? ⟨g, off + 4 + 2, none⟩ = some (.string K1.name) ∧ W.cell? ⟨g, off + 4 + 3, none⟩ = some (u1)) (go_keep) (first
    | (go_at_call 82; refine (HP.out.drew.send HI0.out HI1.out HE0.out HE1.out u0 u1 HG.out HF0.out HF1.out HR0.out HR1.out (by have := HB.out; simp at this ⊢; omega)).mono ?_; rintro e w3 ⟨⟨r, rfl⟩, hp⟩; obtain ⟨b0, b1, b2, b3⟩ := HN.out _ _ _ _ hp; obtain ⟨c00, c01, c02, c03⟩ := HC0.out _ _ _ _ hp; obtain ⟨c10, c11, c12, c13⟩ := HC1.out _ _ _ _ hp; have HP := hid_mk hp; clear hp))
  all_goals go_wp2
  all_goals go_end0
  all_goals exact IPst.addsOn HB0.out HP.out (by simp) _

end Go.Proofs.YtacamenjijlemaaGreatDoor

/- The program's printer: parameters. -/
namespace Go.Proofs.YtacamenjijlemaaGreatDoor
open Go.RowKit

set_option maxHeartbeats 4000000 in
set_option maxRecDepth 100000 in
theorem par_1 (T : Nd) (hnum : T.num = 1) : IW 39 T (fun d => T.name.data.toList ++ 32 :: typeT T.num) := by
  intro pb own X d b w v hbuf hg hf hr hb
  dsimp only at hb ⊢
  have hn := T.fine_len hf
  rw [hnum] at hb ⊢
  have htt : typeT 1 = [105, 110, 116] := rfl
  rw [htt] at hb ⊢
  obtain ⟨a, cap, rfl, _⟩ := row_eq.1 hr
  have hval : T.val (.slice a T.len cap) = .agg #[.int .i64 T.kind, .int .i64 1, .string T.name, .slice a T.len cap] := by unfold Nd.val; rw [hnum]
  rw [hval]
  have hb0 : Below w.heap.size w (w.alloc (.cells #[.int .i64 T.kind, .int .i64 1, .string T.name, .slice a T.len cap] 30)) := ((Below.refl w.heap.size w).alloc (Nat.le_refl _) _)
  have HP := hid_mk (IPst.startOn hbuf hb0)
  have HN := hid_mk (fun d' b' Y W (h : IPst pb own (w.alloc (.cells #[.int .i64 T.kind, .int .i64 1, .string T.name, .slice a T.len cap] 30)) d' b' Y W) => (show W.cell? ⟨w.heap.size, 0, none⟩ = some (.int .i64 T.kind) ∧ W.cell? ⟨w.heap.size, 1, none⟩ = some (.int .i64 1) ∧ W.cell? ⟨w.heap.size, 2, none⟩ = some (.string T.name) ∧ W.cell? ⟨w.heap.size, 3, none⟩ = some (.slice a T.len cap) by
    have e := h.kept hbuf w.heap.size (Nat.le_refl _) (by simp)
    rw [e, e, e, e]; refine ⟨?_, ?_, ?_, ?_⟩ <;> simp [go_sem]))
  have HG := hid_mk (gl_on hbuf hb0 hg)
  have HB0 := hid_mk hb0
  have HB := hid_mk hb
  have HT : Hid (∀ W, Below pb w W → W.cell? ⟨0, 1, none⟩ = some (.string ⟨#[105, 110, 116]⟩)) := fun W hW => (hg W hW).2 1 (by decide)
  have HB1 : Hid (Below pb w (w.alloc (.cells #[.int .i64 T.kind, .int .i64 1, .string T.name, .slice a T.len cap] 30))) := hid_mk (hb0.mono (by have := hbuf.lt; omega))
  have t3 := HT.out _ HB1.out
  clear hnum htt hb hr hf hbuf hg hval hb0
  generalize T.name = ts at *
  generalize T.kind = tk at *
  obtain ⟨b0, b1, b2, b3⟩ := HN.out _ _ _ _ HP.out
  go_enter Tryz.func39, Tryz.ntmps39
  go_wp2
  go_region_held3 (fun W => W.cell? ⟨w.heap.size, 1, none⟩ = some (.int .i64 1) ∧ W.cell? ⟨w.heap.size, 2, none⟩ = some (.string ts) ∧ W.cell? ⟨0, 1, none⟩ = some (.string ⟨#[105, 110, 116]⟩)) (go_keep) (first
    | (go_at_call_of 37 w; refine (HP.out.putD [ts, ⟨#[32]⟩, ⟨#[105, 110, 116]⟩] _ 3 _ (by simp) rfl rfl (by decide) (by have := HB.out; simp [txt] at this ⊢; omega)).mono ?_; rintro e w2 ⟨⟨r, rfl⟩, hp⟩; obtain ⟨b0, b1, b2, b3⟩ := HN.out _ _ _ _ hp; have t3 := HT.out _ (HB1.out.trans hp.below); have HP := hid_mk hp; clear hp))
  all_goals go_wp2
  all_goals go_end0
  all_goals exact IPst.addsOn HB0.out HP.out (by simp [txt]) _

set_option maxHeartbeats 4000000 in
set_option maxRecDepth 100000 in
theorem par_2 (T : Nd) (hnum : T.num = 2) : IW 39 T (fun d => T.name.data.toList ++ 32 :: typeT T.num) := by
  intro pb own X d b w v hbuf hg hf hr hb
  dsimp only at hb ⊢
  have hn := T.fine_len hf
  rw [hnum] at hb ⊢
  have htt : typeT 2 = [98, 111, 111, 108] := rfl
  rw [htt] at hb ⊢
  obtain ⟨a, cap, rfl, _⟩ := row_eq.1 hr
  have hval : T.val (.slice a T.len cap) = .agg #[.int .i64 T.kind, .int .i64 2, .string T.name, .slice a T.len cap] := by unfold Nd.val; rw [hnum]
  rw [hval]
  have hb0 : Below w.heap.size w (w.alloc (.cells #[.int .i64 T.kind, .int .i64 2, .string T.name, .slice a T.len cap] 30)) := ((Below.refl w.heap.size w).alloc (Nat.le_refl _) _)
  have HP := hid_mk (IPst.startOn hbuf hb0)
  have HN := hid_mk (fun d' b' Y W (h : IPst pb own (w.alloc (.cells #[.int .i64 T.kind, .int .i64 2, .string T.name, .slice a T.len cap] 30)) d' b' Y W) => (show W.cell? ⟨w.heap.size, 0, none⟩ = some (.int .i64 T.kind) ∧ W.cell? ⟨w.heap.size, 1, none⟩ = some (.int .i64 2) ∧ W.cell? ⟨w.heap.size, 2, none⟩ = some (.string T.name) ∧ W.cell? ⟨w.heap.size, 3, none⟩ = some (.slice a T.len cap) by
    have e := h.kept hbuf w.heap.size (Nat.le_refl _) (by simp)
    rw [e, e, e, e]; refine ⟨?_, ?_, ?_, ?_⟩ <;> simp [go_sem]))
  have HG := hid_mk (gl_on hbuf hb0 hg)
  have HB0 := hid_mk hb0
  have HB := hid_mk hb
  have HT : Hid (∀ W, Below pb w W → W.cell? ⟨0, 2, none⟩ = some (.string ⟨#[98, 111, 111, 108]⟩)) := fun W hW => (hg W hW).2 2 (by decide)
  have HB1 : Hid (Below pb w (w.alloc (.cells #[.int .i64 T.kind, .int .i64 2, .string T.name, .slice a T.len cap] 30))) := hid_mk (hb0.mono (by have := hbuf.lt; omega))
  have t3 := HT.out _ HB1.out
  clear hnum htt hb hr hf hbuf hg hval hb0
  generalize T.name = ts at *
  generalize T.kind = tk at *
  obtain ⟨b0, b1, b2, b3⟩ := HN.out _ _ _ _ HP.out
  go_enter Tryz.func39, Tryz.ntmps39
  go_wp2
  go_region_held3 (fun W => W.cell? ⟨w.heap.size, 1, none⟩ = some (.int .i64 2) ∧ W.cell? ⟨w.heap.size, 2, none⟩ = some (.string ts) ∧ W.cell? ⟨0, 2, none⟩ = some (.string ⟨#[98, 111, 111, 108]⟩)) (go_keep) (first
    | (go_at_call_of 37 w; refine (HP.out.putD [ts, ⟨#[32]⟩, ⟨#[98, 111, 111, 108]⟩] _ 3 _ (by simp) rfl rfl (by decide) (by have := HB.out; simp [txt] at this ⊢; omega)).mono ?_; rintro e w2 ⟨⟨r, rfl⟩, hp⟩; obtain ⟨b0, b1, b2, b3⟩ := HN.out _ _ _ _ hp; have t3 := HT.out _ (HB1.out.trans hp.below); have HP := hid_mk hp; clear hp))
  all_goals go_wp2
  all_goals go_end0
  all_goals exact IPst.addsOn HB0.out HP.out (by simp [txt]) _

set_option maxHeartbeats 4000000 in
set_option maxRecDepth 100000 in
theorem par_3 (T : Nd) (hnum : T.num = 3) : IW 39 T (fun d => T.name.data.toList ++ 32 :: typeT T.num) := by
  intro pb own X d b w v hbuf hg hf hr hb
  dsimp only at hb ⊢
  have hn := T.fine_len hf
  rw [hnum] at hb ⊢
  have htt : typeT 3 = [99, 104, 97, 110, 32, 105, 110, 116] := rfl
  rw [htt] at hb ⊢
  obtain ⟨a, cap, rfl, _⟩ := row_eq.1 hr
  have hval : T.val (.slice a T.len cap) = .agg #[.int .i64 T.kind, .int .i64 3, .string T.name, .slice a T.len cap] := by unfold Nd.val; rw [hnum]
  rw [hval]
  have hb0 : Below w.heap.size w (w.alloc (.cells #[.int .i64 T.kind, .int .i64 3, .string T.name, .slice a T.len cap] 30)) := ((Below.refl w.heap.size w).alloc (Nat.le_refl _) _)
  have HP := hid_mk (IPst.startOn hbuf hb0)
  have HN := hid_mk (fun d' b' Y W (h : IPst pb own (w.alloc (.cells #[.int .i64 T.kind, .int .i64 3, .string T.name, .slice a T.len cap] 30)) d' b' Y W) => (show W.cell? ⟨w.heap.size, 0, none⟩ = some (.int .i64 T.kind) ∧ W.cell? ⟨w.heap.size, 1, none⟩ = some (.int .i64 3) ∧ W.cell? ⟨w.heap.size, 2, none⟩ = some (.string T.name) ∧ W.cell? ⟨w.heap.size, 3, none⟩ = some (.slice a T.len cap) by
    have e := h.kept hbuf w.heap.size (Nat.le_refl _) (by simp)
    rw [e, e, e, e]; refine ⟨?_, ?_, ?_, ?_⟩ <;> simp [go_sem]))
  have HG := hid_mk (gl_on hbuf hb0 hg)
  have HB0 := hid_mk hb0
  have HB := hid_mk hb
  have HT : Hid (∀ W, Below pb w W → W.cell? ⟨0, 3, none⟩ = some (.string ⟨#[99, 104, 97, 110, 32, 105, 110, 116]⟩)) := fun W hW => (hg W hW).2 3 (by decide)
  have HB1 : Hid (Below pb w (w.alloc (.cells #[.int .i64 T.kind, .int .i64 3, .string T.name, .slice a T.len cap] 30))) := hid_mk (hb0.mono (by have := hbuf.lt; omega))
  have t3 := HT.out _ HB1.out
  clear hnum htt hb hr hf hbuf hg hval hb0
  generalize T.name = ts at *
  generalize T.kind = tk at *
  obtain ⟨b0, b1, b2, b3⟩ := HN.out _ _ _ _ HP.out
  go_enter Tryz.func39, Tryz.ntmps39
  go_wp2
  go_region_held3 (fun W => W.cell? ⟨w.heap.size, 1, none⟩ = some (.int .i64 3) ∧ W.cell? ⟨w.heap.size, 2, none⟩ = some (.string ts) ∧ W.cell? ⟨0, 3, none⟩ = some (.string ⟨#[99, 104, 97, 110, 32, 105, 110, 116]⟩)) (go_keep) (first
    | (go_at_call_of 37 w; refine (HP.out.putD [ts, ⟨#[32]⟩, ⟨#[99, 104, 97, 110, 32, 105, 110, 116]⟩] _ 3 _ (by simp) rfl rfl (by decide) (by have := HB.out; simp [txt] at this ⊢; omega)).mono ?_; rintro e w2 ⟨⟨r, rfl⟩, hp⟩; obtain ⟨b0, b1, b2, b3⟩ := HN.out _ _ _ _ hp; have t3 := HT.out _ (HB1.out.trans hp.below); have HP := hid_mk hp; clear hp))
  all_goals go_wp2
  all_goals go_end0
  all_goals exact IPst.addsOn HB0.out HP.out (by simp [txt]) _

end Go.Proofs.YtacamenjijlemaaGreatDoor
