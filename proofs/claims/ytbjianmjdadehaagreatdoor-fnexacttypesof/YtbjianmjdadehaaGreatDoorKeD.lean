/- The program's checker: every sign of two sides. Written by mkci.py. -/
import Derived.Test.YtbjianmjdadehaaGreatDoorKeC
import Derived.Test.YtbjianmjdadehaaGreatDoorKdO
set_option linter.unusedVariables false
namespace Go.Proofs.YtbjianmjdadehaaGreatDoor
open Go.RowKit

theorem lvl_names {n : ByteArray} (h : 0 < lvl n) : n = ⟨#[61, 61]⟩ ∨ n = ⟨#[33, 61]⟩ ∨ n = ⟨#[38, 38]⟩ ∨ n = ⟨#[124, 124]⟩ ∨ n = ⟨#[60]⟩ ∨ n = ⟨#[60, 61]⟩ ∨ n = ⟨#[62]⟩ ∨ n = ⟨#[62, 61]⟩ ∨ n = ⟨#[43]⟩ ∨ n = ⟨#[45]⟩ ∨ n = ⟨#[42]⟩ ∨ n = ⟨#[47]⟩ ∨ n = ⟨#[37]⟩ := by
  have hm : ∀ k, hasB (lvWords k) n = true → n ∈ lvWords k := fun k h => (hasB_iff _ _).1 h
  unfold lvl at h
  split at h
  · have := hm 1 (by assumption); simp [lvWords] at this; simp [this]
  split at h
  · have := hm 2 (by assumption); simp [lvWords] at this; simp [this]
  split at h
  · have := hm 3 (by assumption); simp [lvWords] at this; rcases this with h | h | h | h | h | h <;> simp [h]
  split at h
  · have := hm 4 (by assumption); simp [lvWords] at this; rcases this with h | h <;> simp [h]
  split at h
  · have := hm 5 (by assumption); simp [lvWords] at this; rcases this with h | h | h <;> simp [h]
  · omega
theorem two_of {T : Nd} (hk : T.kind = 28) {n : ByteArray} (hn : T.name = n) {side whole : Int} (he : eqB n = false) (h1 : (if lvl n = 1 ∨ lvl n = 2 then (2 : Int) else 1) = side) (h2 : (if lvl n = 1 ∨ lvl n = 2 ∨ lvl n = 3 then (2 : Int) else 1) = whole) (F : Nd) (ex : Nat → ExM) (s : CS) (p : Nat) :
    typeM F T.kind T.name T.len ex s p = CR.bind (wantM (ex 0) side s) fun s1 => CR.bind (wantM (ex 1) side s1) fun s2 => .ok (whole, s2) := by
  unfold typeM
  rw [if_neg (by omega), if_neg (by omega), if_neg (by omega), if_neg (by omega), if_neg (by omega), if_neg (by omega), if_neg (by omega), hn, if_neg (by rw [he]; simp), h1, h2]
theorem eq_of {T : Nd} (hk : T.kind = 28) (he : eqB T.name = true) (F : Nd) (ex : Nat → ExM) (s : CS) (p : Nat) :
    typeM F T.kind T.name T.len ex s p = CR.bind (valueM (ex 0) s) fun r => CR.bind (wantM (ex 1) r.1 r.2) fun s2 => .ok (2, s2) := by
  unfold typeM
  rw [if_neg (by omega), if_neg (by omega), if_neg (by omega), if_neg (by omega), if_neg (by omega), if_neg (by omega), if_neg (by omega), if_pos he]
theorem nameIs {s : ByteArray} {a : Array UInt8} (h : s = ⟨a⟩) (l : List UInt8) : (s.toList == l) = (a.toList == l) := by subst h; rw [ByteArray.toList_eq]
theorem ibi_of {T : Nd} (ih : ∀ i, i < T.len → IExS (T.kids i)) : IBiS T := by
  intro K w0 O s ret loops sels w v hS hE hN hfit hk hok
  have hlv := (eo_28 hk hok).1
  rcases lvl_names hlv with h | h | h | h | h | h | h | h | h | h | h | h | h
  · exact ibi_eq ih (.inl ⟨by rw [nameIs h]; rfl, trivial⟩) (eq_of hk (by rw [h]; decide)) K w0 O s ret loops sels w v hS hE hN hfit hk hok
  · exact ibi_eq ih (.inr ⟨by rw [nameIs h]; rfl, by rw [nameIs h]; rfl⟩) (eq_of hk (by rw [h]; decide)) K w0 O s ret loops sels w v hS hE hN hfit hk hok
  · exact ibi_two ih 2 2 (by rw [nameIs h]; rfl) (by rw [nameIs h]; rfl) (.inl ⟨by rw [nameIs h]; rfl, rfl, rfl⟩) (two_of hk h (by decide) (by decide) (by decide)) K w0 O s ret loops sels w v hS hE hN hfit hk hok
  · exact ibi_two ih 2 2 (by rw [nameIs h]; rfl) (by rw [nameIs h]; rfl) (.inr (.inl ⟨by rw [nameIs h]; rfl, by rw [nameIs h]; rfl, rfl, rfl⟩)) (two_of hk h (by decide) (by decide) (by decide)) K w0 O s ret loops sels w v hS hE hN hfit hk hok
  · exact ibi_two ih 1 2 (by rw [nameIs h]; rfl) (by rw [nameIs h]; rfl) (.inr (.inr (.inl ⟨by rw [nameIs h]; rfl, by rw [nameIs h]; rfl, by rw [nameIs h]; rfl, rfl, rfl⟩))) (two_of hk h (by decide) (by decide) (by decide)) K w0 O s ret loops sels w v hS hE hN hfit hk hok
  · exact ibi_two ih 1 2 (by rw [nameIs h]; rfl) (by rw [nameIs h]; rfl) (.inr (.inr (.inr (.inl ⟨by rw [nameIs h]; rfl, by rw [nameIs h]; rfl, by rw [nameIs h]; rfl, by rw [nameIs h]; rfl, rfl, rfl⟩)))) (two_of hk h (by decide) (by decide) (by decide)) K w0 O s ret loops sels w v hS hE hN hfit hk hok
  · exact ibi_two ih 1 2 (by rw [nameIs h]; rfl) (by rw [nameIs h]; rfl) (.inr (.inr (.inr (.inr (.inl ⟨by rw [nameIs h]; rfl, by rw [nameIs h]; rfl, by rw [nameIs h]; rfl, by rw [nameIs h]; rfl, by rw [nameIs h]; rfl, rfl, rfl⟩))))) (two_of hk h (by decide) (by decide) (by decide)) K w0 O s ret loops sels w v hS hE hN hfit hk hok
  · exact ibi_two ih 1 2 (by rw [nameIs h]; rfl) (by rw [nameIs h]; rfl) (.inr (.inr (.inr (.inr (.inr (.inl ⟨by rw [nameIs h]; rfl, by rw [nameIs h]; rfl, by rw [nameIs h]; rfl, by rw [nameIs h]; rfl, by rw [nameIs h]; rfl, by rw [nameIs h]; rfl, rfl, rfl⟩)))))) (two_of hk h (by decide) (by decide) (by decide)) K w0 O s ret loops sels w v hS hE hN hfit hk hok
  · exact ibi_two ih 1 1 (by rw [nameIs h]; rfl) (by rw [nameIs h]; rfl) (.inr (.inr (.inr (.inr (.inr (.inr (⟨by rw [nameIs h]; rfl, by rw [nameIs h]; rfl, by rw [nameIs h]; rfl, by rw [nameIs h]; rfl, by rw [nameIs h]; rfl, by rw [nameIs h]; rfl, rfl, rfl⟩))))))) (two_of hk h (by decide) (by decide) (by decide)) K w0 O s ret loops sels w v hS hE hN hfit hk hok
  · exact ibi_two ih 1 1 (by rw [nameIs h]; rfl) (by rw [nameIs h]; rfl) (.inr (.inr (.inr (.inr (.inr (.inr (⟨by rw [nameIs h]; rfl, by rw [nameIs h]; rfl, by rw [nameIs h]; rfl, by rw [nameIs h]; rfl, by rw [nameIs h]; rfl, by rw [nameIs h]; rfl, rfl, rfl⟩))))))) (two_of hk h (by decide) (by decide) (by decide)) K w0 O s ret loops sels w v hS hE hN hfit hk hok
  · exact ibi_two ih 1 1 (by rw [nameIs h]; rfl) (by rw [nameIs h]; rfl) (.inr (.inr (.inr (.inr (.inr (.inr (⟨by rw [nameIs h]; rfl, by rw [nameIs h]; rfl, by rw [nameIs h]; rfl, by rw [nameIs h]; rfl, by rw [nameIs h]; rfl, by rw [nameIs h]; rfl, rfl, rfl⟩))))))) (two_of hk h (by decide) (by decide) (by decide)) K w0 O s ret loops sels w v hS hE hN hfit hk hok
  · exact ibi_two ih 1 1 (by rw [nameIs h]; rfl) (by rw [nameIs h]; rfl) (.inr (.inr (.inr (.inr (.inr (.inr (⟨by rw [nameIs h]; rfl, by rw [nameIs h]; rfl, by rw [nameIs h]; rfl, by rw [nameIs h]; rfl, by rw [nameIs h]; rfl, by rw [nameIs h]; rfl, rfl, rfl⟩))))))) (two_of hk h (by decide) (by decide) (by decide)) K w0 O s ret loops sels w v hS hE hN hfit hk hok
  · exact ibi_two ih 1 1 (by rw [nameIs h]; rfl) (by rw [nameIs h]; rfl) (.inr (.inr (.inr (.inr (.inr (.inr (⟨by rw [nameIs h]; rfl, by rw [nameIs h]; rfl, by rw [nameIs h]; rfl, by rw [nameIs h]; rfl, by rw [nameIs h]; rfl, by rw [nameIs h]; rfl, rfl, rfl⟩))))))) (two_of hk h (by decide) (by decide) (by decide)) K w0 O s ret loops sels w v hS hE hN hfit hk hok
end Go.Proofs.YtbjianmjdadehaaGreatDoor
namespace Go.Proofs.YtbjianmjdadehaaGreatDoor
open Go.RowKit

def IVar : Prop := ∀ (K : IK) (w0 : World) (O : Nat → Prop) (s : CS) (ret loops sels : Int) (w : World) (t : ByteArray) (p : Nat), IS K w0 O s ret loops sels w → t.size ≤ maxLen →
  Calls Tryz.prog 110 #[.pointer (some ⟨K.cb, 0, none⟩), .string t, .int .i64 p] w (Ans K w (if look s.1 t = 0 then .error (5, p) else .ok (look s.1 t)) fun r e w' => e = .returned (.int .i64 r) ∧ IS K w0 O s ret loops sels w')
theorem name_max {T : Nd} (h : T.Fine) : T.name.size ≤ maxLen := by unfold maxLen; exact T.fine_name h
set_option maxHeartbeats 4000000 in
set_option maxRecDepth 100000 in
theorem ity_22 {T : Nd} (hk : T.kind = 22) : ITyS T := by
  intro K w0 O s ret loops sels w v hS hE hN hfit hok
  have hty : typeM K.F T.kind T.name T.len (fun i => exT K.F (T.kids i)) (take0 s) s.2.length = .ok (1, take0 s) := by
    unfold typeM
    rw [if_pos hk]
  rw [hty]
  have HA := hid_mk (fun o => hS.alloc o)
  unfold Nd.val
  rw [hk]
  clear hS hE hN hok hfit hty hk
  go_enter Tryz.func124, Tryz.ntmps124
  go_wp2
  go_ret
  exact ⟨rfl, HA.out _⟩
set_option maxHeartbeats 4000000 in
set_option maxRecDepth 100000 in
theorem ity_23 {T : Nd} (hk : T.kind = 23) : ITyS T := by
  intro K w0 O s ret loops sels w v hS hE hN hfit hok
  have hty : typeM K.F T.kind T.name T.len (fun i => exT K.F (T.kids i)) (take0 s) s.2.length = .ok (2, take0 s) := by
    unfold typeM
    rw [if_neg (by omega), if_pos hk]
  rw [hty]
  have HA := hid_mk (fun o => hS.alloc o)
  unfold Nd.val
  rw [hk]
  clear hS hE hN hok hfit hty hk
  go_enter Tryz.func124, Tryz.ntmps124
  go_wp2
  go_ret
  exact ⟨rfl, HA.out _⟩
set_option maxHeartbeats 4000000 in
set_option maxRecDepth 100000 in
theorem ity_24 {T : Nd} (hk : T.kind = 24) (hVar : IVar) : ITyS T := by
  intro K w0 O s ret loops sels w v hS hE hN hfit hok
  have hlk : look (take0 s).1 T.name = look s.1 T.name := rfl
  have hty : typeM K.F T.kind T.name T.len (fun i => exT K.F (T.kids i)) (take0 s) s.2.length = CR.bind (if look s.1 T.name = 0 then .error (5, s.2.length) else .ok (look s.1 T.name)) fun r => .ok (r, take0 s) := by
    unfold typeM
    rw [if_neg (by omega), if_neg (by omega), if_pos hk]; rw [hlk]; split <;> rfl
  rw [hty]
  have HB := hid_mk (fun o => hS.box o)
  have HV := hid_mk (fun o => hVar K w0 O (take0 s) ret loops sels (w.alloc o) T.name s.2.length (hS.alloc o) (name_max hN.fine))
  rw [hlk] at HV
  unfold Nd.val
  rw [hk]
  clear hS hE hN hok hfit hty hk hlk
  cases hM : (if look s.1 T.name = 0 then .error (5, s.2.length) else .ok (look s.1 T.name) : CR Int) with
  | error p =>
    have HM := hid_mk hM
    clear hM
    rw [CR.bind_error]
    go_enter Tryz.func124, Tryz.ntmps124
    go_wp2_with (first
      | (go_at_call 110; refine (ansE (HV.out _) HM.out).mono ?_; rintro e w2 ⟨rfl, hb2⟩; skip))
    exact ⟨rfl, rfl, (HB.out _).trans hb2⟩
  | ok r =>
    have HM := hid_mk hM
    clear hM
    rw [CR.bind_ok]
    go_enter Tryz.func124, Tryz.ntmps124
    go_wp2_with (first
      | (go_at_call 110; refine (ansO (HV.out _) HM.out).mono ?_; rintro e w2 ⟨rfl, hs2⟩; have HS2 := hid_mk hs2; clear hs2))
    go_ret
    exact ⟨rfl, HS2.out⟩
set_option maxHeartbeats 4000000 in
set_option maxRecDepth 100000 in
theorem ity_29 {T : Nd} (hk : T.kind = 29) (ih : ∀ i, i < T.len → IExS (T.kids i)) : ITyS T := by
  intro K w0 O s ret loops sels w v hS hE hN hfit hok
  obtain ⟨hl, he0⟩ := eo_29 hk hok
  have hty : typeM K.F T.kind T.name T.len (fun i => exT K.F (T.kids i)) (take0 s) s.2.length = CR.bind (wantM (exT K.F (T.kids 0)) 3 (take0 s)) fun s1 => .ok (1, s1) := by
    unfold typeM
    rw [if_neg (by omega), if_neg (by omega), if_neg (by omega), if_neg (by omega), if_neg (by omega), if_neg (by omega), if_pos hk]
  rw [hty]
  obtain ⟨g, off, cap, hv, hgl, hcap, hkid⟩ := ck_kid hN.row (by omega)
  subst hv
  obtain ⟨u0, hc0, hr0⟩ := hkid 0 (by omega)
  simp only [Nat.zero_mul, Nat.add_zero] at hc0
  have HC0 := hid_mk hc0
  obtain ⟨O1, hs1, hback1, hbox1, hbl1⟩ := hS.boxed (.cells #[.int .i64 T.kind, .int .i64 T.num, .string T.name, .slice (some ⟨g, off, none⟩) T.len cap] 30)
  have HBX := hid_mk hbox1
  have HBL := hid_mk hbl1
  have HB1 := hid_mk hback1
  have HS1 := hid_mk hs1
  have hlo : K.lo ≤ w.heap.size := by have := hS.lt; have := hS.ok.cl; omega
  have hfew := hS.ok.few
  have HW0 := hid_mk (fun (W : World) (st : CS) (ret loops sels : Int) (ty : Int) (hW : IS K (w.alloc (.cells #[.int .i64 T.kind, .int .i64 T.num, .string T.name, .slice (some ⟨g, off, none⟩) T.len cap] 30)) O1 st ret loops sels W) (hf : st.2.length + (T.kids 0).size ≤ K.N) => iwant_of (ih 0 (by omega)) K _ O1 st ret loops sels W u0 ty hW (hE.later (hbl1 _ _ _ _ _ hW)) ((hN.kid (by omega) hr0).later (hbl1 _ _ _ _ _ hW)) hf he0)
  have HF0 := hid_mk (take_fit hfit (i := 0) (by omega))
  unfold Nd.val at *
  have hgw : g < w.heap.size := by omega
  have hgw1 : g < w.heap.size + 1 := by omega
  have hgw2 : g < w.heap.size + 1 + 1 := by omega
  have hgn0 : ¬ g = w.heap.size := by omega
  have hgn1 : ¬ g = w.heap.size + 1 := by omega
  have hgn2 : ¬ g = w.heap.size + 1 + 1 := by omega
  obtain ⟨c00, c01, c02, c03⟩ := HC0.out w (Below.refl _ _)
  have hpos : 0 < T.len := by omega
  have HKD := hid_mk hk
  rw [hk] at HW0 HS1 HBX HBL HB1 ⊢
  clear hS hE hN hs1 hback1 hbox1 hbl1 hkid hc0 hr0 hty hok hk hl
  cases hM : wantM (exT K.F (T.kids 0)) 3 (take0 s) with
  | error p =>
    have HM := hid_mk hM
    clear hM
    rw [CR.bind_error]
    go_enter Tryz.func124, Tryz.ntmps124
    go_wp2_with (first
      | (go_at_call 109; refine (ansE (HW0.out _ _ _ _ _ 3 HS1.out HF0.out) HM.out).mono ?_; rintro e w2 ⟨rfl, hb2⟩; skip))
    exact ⟨rfl, rfl, (HBL.out _ _ _ _ _ HS1.out).trans hb2⟩
  | ok s1 =>
    have HM := hid_mk hM
    clear hM
    rw [CR.bind_ok]
    go_enter Tryz.func124, Tryz.ntmps124
    go_wp2_with (first
      | (go_at_call 109; refine (ansO (HW0.out _ _ _ _ _ 3 HS1.out HF0.out) HM.out).mono ?_; rintro e w2 ⟨rfl, hs2⟩; have HS2 := hid_mk hs2; clear hs2))
    go_ret
    exact ⟨rfl, HB1.out _ _ _ _ _ HS2.out⟩
end Go.Proofs.YtbjianmjdadehaaGreatDoor
namespace Go.Proofs.YtbjianmjdadehaaGreatDoor
open Go.RowKit

set_option maxHeartbeats 4000000 in
set_option maxRecDepth 100000 in
theorem ity_27 {T : Nd} (hk : T.kind = 27) (hU : IUnS T) : ITyS T := by
  intro K w0 O s ret loops sels w v hS hE hN hfit hok
  have HB := hid_mk (fun o => hS.box o)
  have HV := hid_mk (fun o => hU K w0 O s ret loops sels (w.alloc o) v (hS.alloc o) (hE.later (hS.box o)) (hN.later (hS.box o)) hfit hk hok)
  unfold Nd.val at *
  have hk2 : (T.kind : Int) = 27 := hk
  generalize typeM K.F T.kind T.name T.len (fun i => exT K.F (T.kids i)) (take0 s) s.2.length = M at *
  rw [hk2] at HV ⊢
  clear hS hE hN hok hfit hk hk2
  cases hM : M with
  | error p =>
    have HM := hid_mk hM
    clear hM
    go_enter Tryz.func124, Tryz.ntmps124
    go_wp2_with (first
      | (go_at_call 129; refine (ansE (HV.out _) HM.out).mono ?_; rintro e w2 ⟨rfl, hb2⟩; skip))
    exact ⟨rfl, rfl, (HB.out _).trans hb2⟩
  | ok r =>
    have HM := hid_mk hM
    clear hM
    go_enter Tryz.func124, Tryz.ntmps124
    go_wp2_with (first
      | (go_at_call 129; refine (ansO (HV.out _) HM.out).mono ?_; rintro e w2 ⟨rfl, hs2⟩; have HS2 := hid_mk hs2; clear hs2))
    go_ret
    exact ⟨rfl, HS2.out⟩
set_option maxHeartbeats 4000000 in
set_option maxRecDepth 100000 in
theorem ity_28 {T : Nd} (hk : T.kind = 28) (hU : IBiS T) : ITyS T := by
  intro K w0 O s ret loops sels w v hS hE hN hfit hok
  have HB := hid_mk (fun o => hS.box o)
  have HV := hid_mk (fun o => hU K w0 O s ret loops sels (w.alloc o) v (hS.alloc o) (hE.later (hS.box o)) (hN.later (hS.box o)) hfit hk hok)
  unfold Nd.val at *
  have hk2 : (T.kind : Int) = 28 := hk
  generalize typeM K.F T.kind T.name T.len (fun i => exT K.F (T.kids i)) (take0 s) s.2.length = M at *
  rw [hk2] at HV ⊢
  clear hS hE hN hok hfit hk hk2
  cases hM : M with
  | error p =>
    have HM := hid_mk hM
    clear hM
    go_enter Tryz.func124, Tryz.ntmps124
    go_wp2_with (first
      | (go_at_call 130; refine (ansE (HV.out _) HM.out).mono ?_; rintro e w2 ⟨rfl, hb2⟩; skip))
    exact ⟨rfl, rfl, (HB.out _).trans hb2⟩
  | ok r =>
    have HM := hid_mk hM
    clear hM
    go_enter Tryz.func124, Tryz.ntmps124
    go_wp2_with (first
      | (go_at_call 130; refine (ansO (HV.out _) HM.out).mono ?_; rintro e w2 ⟨rfl, hs2⟩; have HS2 := hid_mk hs2; clear hs2))
    go_ret
    exact ⟨rfl, HS2.out⟩
end Go.Proofs.YtbjianmjdadehaaGreatDoor
namespace Go.Proofs.YtbjianmjdadehaaGreatDoor
open Go.RowKit

set_option maxHeartbeats 4000000 in
set_option maxRecDepth 100000 in
theorem ity_26 {T : Nd} (hk : T.kind = 26) (ih : ∀ i, i < T.len → IExS (T.kids i)) : ITyS T := by
  intro K w0 O s ret loops sels w v hS hE hN hfit hok
  obtain ⟨hl, he⟩ := eo_26 hk hok
  have hty : typeM K.F T.kind T.name T.len (fun i => exT K.F (T.kids i)) (take0 s) s.2.length = CR.bind (forN (fun i => wantM (exT K.F (T.kids i)) 1) T.len (take0 s)) fun s1 => .ok (3, s1) := by
    unfold typeM
    rw [if_neg (by omega), if_neg (by omega), if_neg (by omega), if_neg (by omega), if_pos hk]
  rw [hty]
  obtain ⟨a, cap, hv, hcap, hq⟩ := row_eq.1 hN.row
  subst hv
  obtain ⟨O1, hs1, hback1, hbox1, hbl1⟩ := hS.boxed (.cells #[.int .i64 T.kind, .int .i64 T.num, .string T.name, .slice a T.len cap] 30)
  have HBX := hid_mk hbox1
  have HBL := hid_mk hbl1
  have HB1 := hid_mk hback1
  have HS1 := hid_mk hs1
  have hlo : K.lo ≤ w.heap.size := by have := hS.lt; have := hS.ok.cl; omega
  have hfew := hS.ok.few
  have HKID := hid_mk (fun (h0 : T.len ≠ 0) => ck_kid hN.row h0)
  have HWN := hid_mk (fun (j : Nat) (hj : j < T.len) (u : Value) (hr : Row 0 K.lo w (T.kids j) u) (W : World) (st : CS) (hW : IS K (w.alloc (.cells #[.int .i64 T.kind, .int .i64 T.num, .string T.name, .slice a T.len cap] 30)) O1 st ret loops sels W) (hf : st.2.length + (T.kids j).size ≤ K.N) => iwant_of (ih j hj) K _ O1 st ret loops sels W u 1 hW (hE.later (hbl1 _ _ _ _ _ hW)) ((hN.kid hj hr).later (hbl1 _ _ _ _ _ hW)) hf (he j hj))
  have HFT : Hid (∀ j st, j < T.len → forN (fun i => wantM (exT K.F (T.kids i)) 1) j (take0 s) = .ok st → st.2.length + (T.kids j).size ≤ K.N) := by
    intro j st hj h
    have := forN_wt (g := fun i => (T.kids i).size) (fun i hi => (ex_len K.F _ (he i hi)).want 1) (Nat.le_of_lt hj) _ _ h
    have h2 := kidAt_le T s.2.length hj
    rw [take0_len] at this
    unfold kidAt at h2
    omega
  unfold Nd.val at *
  rw [hk] at HWN HS1 HBX HBL HB1 ⊢
  have hn := T.fine_len hN.fine
  clear hS hE hN hs1 hback1 hbox1 hbl1 hty hok hk hl hq ih he hfit
  go_enter Tryz.func124, Tryz.ntmps124
  go_wp2
  go_loopw [31] (fun i wr => ∃ j : Nat, j ≤ T.len ∧ i = .int .i64 j ∧ ∃ st, forN (fun i => wantM (exT K.F (T.kids i)) 1) j (take0 s) = .ok st ∧ IS K (w.alloc (.cells #[.int .i64 26, .int .i64 T.num, .string T.name, .slice a T.len cap] 30)) O1 st ret loops sels wr) (fun i _ => T.len - (intOf i).toNat)
  case atStart => exact ⟨0, Nat.zero_le _, rfl, take0 s, rfl, HS1.out⟩
  case round =>
    obtain ⟨j, hj, rfl, st, hst, hss⟩ := hrel
    by_cases hlt : j < T.len
    · have hji : (j : Int) < (T.len : Int) := by omega
      obtain ⟨g, off, cap', hv', hgl, hcap', hkid⟩ := HKID.out (by omega)
      injection hv' with ev1 ev2 ev3
      subst ev1
      subst ev3
      obtain ⟨u, hcn, hrn⟩ := hkid j hlt
      obtain ⟨au, qu, hu, hcu, hqu⟩ := row_eq.1 hrn
      subst hu
      clear hqu
      obtain ⟨c0, c1, c2, c3⟩ := hcn _ (HBL.out _ _ _ _ _ hss)
      have HW := hid_mk (fun o => HWN.out j hlt _ hrn (wr.alloc o) st (hss.alloc o) (HFT.out j st hlt hst))
      have HNX : Hid (forN (fun i => wantM (exT K.F (T.kids i)) 1) (j + 1) (take0 s) = wantM (exT K.F (T.kids j)) 1 st) := by unfold Hid; simp only [forN, hst]; rfl
      have HBO := hid_mk (fun o => (HBL.out _ _ _ _ _ hss).trans (hss.box o))
      unfold Nd.val at HW
      clear hkid hcn hrn hss
      cases hM : wantM (exT K.F (T.kids j)) 1 st with
      | error p =>
        have HM := hid_mk hM
        have HER : Hid (CR.bind (forN (fun i => wantM (exT K.F (T.kids i)) 1) T.len (take0 s)) (fun s1 => .ok ((3 : Int), s1)) = .error p) := by unfold Hid; rw [forN_err (HNX.out.trans hM) (show j + 1 ≤ T.len by omega)]; rfl
        clear hM hst
        go_wp2_with (first
          | (go_at_call 109; refine (ansE (HW.out _) HM.out).mono ?_; rintro e w2 ⟨rfl, hb2⟩; skip))
        refine ⟨rfl, ?_⟩
        rw [ans_err HER.out]
        exact ⟨rfl, (HBO.out _).trans hb2⟩
      | ok s1 =>
        have HM := hid_mk hM
        clear hM hst
        go_wp2_with (first
          | (go_at_call 109; refine (ansO (HW.out _) HM.out).mono ?_; rintro e w2 ⟨rfl, hs2⟩; have HS2 := hid_mk hs2; clear hs2))
        exact ⟨⟨j + 1, by omega, by go_num, s1, by rw [HNX.out, HM.out], HS2.out⟩, by simp [intOf]; omega⟩
    · obtain rfl : j = T.len := by omega
      have HSS := hid_mk hss
      have HST := hid_mk hst
      clear hss hst
      go_wp2
      go_ret
      rw [ans_ok (a := ((3 : Int), st)) (by rw [HST.out]; rfl)]
      exact ⟨rfl, HB1.out _ _ _ _ _ HSS.out⟩
end Go.Proofs.YtbjianmjdadehaaGreatDoor
