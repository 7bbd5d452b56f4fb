/- The program's checker: small statements. Written by mkci.py. -/
import Derived.Test.YtbjianmjdadehaaGreatDoorKeE
set_option linter.unusedVariables false
namespace Go.Proofs.YtbjianmjdadehaaGreatDoor
open Go.RowKit

set_option maxHeartbeats 4000000 in
set_option maxRecDepth 100000 in
theorem istep_of (hVar : IVar) {T : Nd} (K : IK) (w0 : World) (O : Nat → Prop) (s : CS) (ret loops sels : Int) (w : World) (v : Value) (p : Nat) (hS : IS K w0 O s ret loops sels w) (hN : INd K w T v) :
    Calls Tryz.prog 111 #[.pointer (some ⟨K.cb, 0, none⟩), T.val v, .int .i64 p] w (Ans K w (if look s.1 T.name = 0 then .error (5, p) else if look s.1 T.name = 1 then .ok s else .error (7, p)) fun s1 e w1 => e = .returned (.tuple #[]) ∧ IS K w0 O s1 ret loops sels w1) := by
  obtain ⟨O1, hS1, hback, hsince⟩ := hS.since
  have HB := hid_mk (fun o => hS.box o)
  have HV := hid_mk (fun o => hVar K w O1 s ret loops sels (w.alloc o) T.name p (hS1.alloc o) (name_max hN.fine))
  have HSI := hid_mk hsince
  have HBK := hid_mk hback
  unfold Nd.val
  clear hS hN hS1 hback hsince
  generalize look s.1 T.name = lk at *
  by_cases h0 : lk = 0
  · rw [if_pos h0] at HV ⊢
    clear h0
    go_enter Tryz.func111, Tryz.ntmps111
    go_wp2_with (first
      | (go_at_call 110; refine (ansE (HV.out _) rfl).mono ?_; rintro e w2 ⟨rfl, hb2⟩; skip))
    exact ⟨rfl, rfl, (HB.out _).trans hb2⟩
  · rw [if_neg h0] at HV ⊢
    by_cases h1 : lk = 1
    · rw [if_pos h1]
      have h1' : (lk == 1) = true := beq_iff_eq.2 h1
      have h1n : (lk != 1) = false := by simp only [bne, h1']; rfl
      clear h0 h1
      go_enter Tryz.func111, Tryz.ntmps111
      go_wp2_with (first
        | (go_at_call 110; refine (ansO (HV.out _) rfl).mono ?_; rintro e w2 ⟨rfl, hs2⟩; have HS2 := hid_mk hs2; clear hs2))
      go_end0
      exact ⟨rfl, HBK.out _ _ _ _ _ HS2.out⟩
    · rw [if_neg h1]
      have h1' : (lk == 1) = false := beq_eq_false_iff_ne.2 h1
      have h1n : (lk != 1) = true := by simp only [bne, h1']; rfl
      clear h0 h1
      go_enter Tryz.func111, Tryz.ntmps111
      go_wp2_with (first
        | (go_at_call 110; refine (ansO (HV.out _) rfl).mono ?_; rintro e w2 ⟨rfl, hs2⟩; have HS2 := hid_mk hs2; clear hs2))
      exact ⟨rfl, rfl, HSI.out _ _ _ _ _ HS2.out⟩
set_option maxHeartbeats 4000000 in
set_option maxRecDepth 100000 in
theorem iplaced_of {K : IK} (w : World) (n : Int) (p : Nat) (pt : Value) :
    Calls Tryz.prog 118 #[pt, .int .i64 n, .int .i64 p] w fun e w1 => if n = 0 then e = .panicked [{ v := fltV (10, p), recovered := false }] ∧ w1 = w else e = .returned (.tuple #[]) ∧ w1 = w := by
  by_cases h0 : n = 0
  · simp only [if_pos h0]
    subst h0
    go_enter Tryz.func118, Tryz.ntmps118
    go_wp2
    exact ⟨rfl, rfl, rfl⟩
  · simp only [if_neg h0]
    have h0' : (n == 0) = false := beq_eq_false_iff_ne.2 h0
    clear h0
    go_enter Tryz.func118, Tryz.ntmps118
    go_wp2
    go_end0
    exact ⟨rfl, rfl⟩
set_option maxHeartbeats 4000000 in
set_option maxRecDepth 100000 in
theorem ishown_of (hVar : IVar) {T : Nd} (K : IK) (w0 : World) (O : Nat → Prop) (s : CS) (ret loops sels : Int) (w : World) (v : Value) (hS : IS K w0 O s ret loops sels w) (hE : IEnv K w) (hN : INd K w T v) (hfit : s.2.length + T.size ≤ K.N) (hok : T.eOk = true) :
    Calls Tryz.prog 119 #[.pointer (some ⟨K.cb, 0, none⟩), T.val v] w (Ans K w (CR.bind (valueM (exT K.F T) s) fun r => if r.1 = 3 then .error (7, s.2.length) else .ok r.2) fun s1 e w1 => e = .returned (.tuple #[]) ∧ IS K w0 O s1 ret loops sels w1) := by
  obtain ⟨O1, hS1, hback, hsince⟩ := hS.since
  have HC := hid_mk (fun o => ivalue_of (iex_every hVar T) K w O1 s ret loops sels (w.alloc o) v (hS1.alloc o) (hE.later (hS.box o)) (hN.later (hS.box o)) hfit hok)
  have HNX := hid_mk (fun o => next_any (hS.alloc o))
  have HB := hid_mk (fun o => hS.box o)
  have HSI := hid_mk hsince
  have HBK := hid_mk hback
  unfold Nd.val at *
  clear hS hS1 hE hN hok hfit hsince hback
  generalize s.2.length = q at *
  generalize T.kind = tk at *
  generalize T.num = tn at *
  generalize T.name = ts at *
  cases hM : valueM (exT K.F T) s with
  | error p =>
    rw [hM] at HC
    rw [CR.bind_error]
    clear hM
    go_enter Tryz.func119, Tryz.ntmps119
    go_wp2_with (first
      | (go_at_call 122; refine (HNX.out _).mono ?_; rintro e w1 ⟨rfl, rfl⟩)
      | (go_at_call 108; refine (HC.out _).mono ?_; rintro e w1 ⟨rfl, hb1⟩; skip))
    exact ⟨rfl, rfl, (HB.out _).trans hb1⟩
  | ok r =>
    obtain ⟨r1, r2⟩ := r
    rw [hM] at HC
    rw [CR.bind_ok]
    dsimp only
    clear hM
    by_cases h0 : r1 = 3
    · rw [if_pos h0]
      subst h0
      go_enter Tryz.func119, Tryz.ntmps119
      go_wp2_with (first
        | (go_at_call 122; refine (HNX.out _).mono ?_; rintro e w1 ⟨rfl, rfl⟩)
        | (go_at_call 108; refine (HC.out _).mono ?_; rintro e w2 ⟨rfl, hs2⟩; have HS2 := hid_mk hs2; clear hs2))
      exact ⟨rfl, rfl, HSI.out _ _ _ _ _ HS2.out⟩
    · rw [if_neg h0]
      have h0' : (r1 == 3) = false := beq_eq_false_iff_ne.2 h0
      clear h0
      go_enter Tryz.func119, Tryz.ntmps119
      go_wp2_with (first
        | (go_at_call 122; refine (HNX.out _).mono ?_; rintro e w1 ⟨rfl, rfl⟩)
        | (go_at_call 108; refine (HC.out _).mono ?_; rintro e w2 ⟨rfl, hs2⟩; have HS2 := hid_mk hs2; clear hs2))
      go_end0
      exact ⟨rfl, HBK.out _ _ _ _ _ HS2.out⟩
set_option maxHeartbeats 4000000 in
set_option maxRecDepth 100000 in
theorem isend_of (hVar : IVar) {A B : Nd} (K : IK) (w0 : World) (O : Nat → Prop) (s : CS) (ret loops sels : Int) (w : World) (va vb : Value) (hS : IS K w0 O s ret loops sels w) (hE : IEnv K w) (hA : INd K w A va) (hB : INd K w B vb) (hfit : s.2.length + (A.size + B.size) ≤ K.N) (he0 : A.eOk = true) (he1 : B.eOk = true) :
    Calls Tryz.prog 112 #[.pointer (some ⟨K.cb, 0, none⟩), A.val va, B.val vb] w (Ans K w (CR.bind (wantM (exT K.F A) 3 s) (wantM (exT K.F B) 1)) fun s1 e w1 => e = .returned (.tuple #[]) ∧ IS K w0 O s1 ret loops sels w1) := by
  obtain ⟨O1, hs1, hback1, hbox1, hbl1⟩ := hS.boxed (.cells #[.int .i64 A.kind, .int .i64 A.num, .string A.name, va] 30)
  obtain ⟨O2, hs2, hback2, hbox2, hbl2⟩ := hs1.boxed (.cells #[.int .i64 B.kind, .int .i64 B.num, .string B.name, vb] 30)
  have HBX : Hid (∀ s' r' l' o' W, IS K ((w.alloc (.cells #[.int .i64 A.kind, .int .i64 A.num, .string A.name, va] 30)).alloc (.cells #[.int .i64 B.kind, .int .i64 B.num, .string B.name, vb] 30)) O2 s' r' l' o' W → W.heap[w.heap.size + 1]? = some (.cells #[.int .i64 B.kind, .int .i64 B.num, .string B.name, vb] 30)) := fun s' r' l' o' W h => by have := hbox2 s' r' l' o' W h; simpa using this
  have HBL := hid_mk (fun s' r' l' o' W (h : IS K ((w.alloc (.cells #[.int .i64 A.kind, .int .i64 A.num, .string A.name, va] 30)).alloc (.cells #[.int .i64 B.kind, .int .i64 B.num, .string B.name, vb] 30)) O2 s' r' l' o' W) => hbl1 _ _ _ _ _ (hback2 s' r' l' o' W h))
  have HB1 := hid_mk (fun s' r' l' o' W (h : IS K ((w.alloc (.cells #[.int .i64 A.kind, .int .i64 A.num, .string A.name, va] 30)).alloc (.cells #[.int .i64 B.kind, .int .i64 B.num, .string B.name, vb] 30)) O2 s' r' l' o' W) => hback1 _ _ _ _ _ (hback2 s' r' l' o' W h))
  have HS2 := hid_mk hs2
  have HWA := hid_mk (iwant_of (iex_every hVar A) K _ O2 s ret loops sels _ va 3 hs2 (hE.later (HBL.out _ _ _ _ _ hs2)) (hA.later (HBL.out _ _ _ _ _ hs2)) (by omega) he0)
  have HWB := hid_mk (fun W (st : CS) (hW : IS K ((w.alloc (.cells #[.int .i64 A.kind, .int .i64 A.num, .string A.name, va] 30)).alloc (.cells #[.int .i64 B.kind, .int .i64 B.num, .string B.name, vb] 30)) O2 st ret loops sels W) (hf : st.2.length + B.size ≤ K.N) => iwant_of (iex_every hVar B) K _ O2 st ret loops sels W vb 1 hW (hE.later (HBL.out _ _ _ _ _ hW)) (hB.later (HBL.out _ _ _ _ _ hW)) hf he1)
  have HXL : Hid (∀ s1, wantM (exT K.F A) 3 s = .ok s1 → s1.2.length + B.size ≤ K.N) := fun s1 h => by have := ((ex_len K.F _ he0).want 3 _ _ h).2; omega
  unfold Nd.val at *
  clear hS hE hA hB hs1 hs2 hback1 hback2 hbox1 hbox2 hbl1 hbl2 hfit he0 he1
  cases hM : wantM (exT K.F A) 3 s with
  | error p =>
    have HM := hid_mk hM
    clear hM
    rw [CR.bind_error]
    go_enter Tryz.func112, Tryz.ntmps112
    go_wp2_with (first
      | (go_at_call 109; refine (ansE HWA.out HM.out).mono ?_; rintro e w2 ⟨rfl, hb2⟩; skip))
    exact ⟨rfl, rfl, (HBL.out _ _ _ _ _ HS2.out).trans hb2⟩
  | ok s1 =>
    have HM := hid_mk hM
    clear hM
    rw [CR.bind_ok]
    have HM1 := HM
    clear HM
    have P1 : Hid True := trivial
    cases hM : wantM (exT K.F B) 1 s1 with
    | error p =>
      have HM := hid_mk hM
      clear hM
      go_enter Tryz.func112, Tryz.ntmps112
      go_wp2_with (first
        | (clear P1; go_at_call 109; refine (ansO HWA.out HM1.out).mono ?_; rintro e w2 ⟨rfl, hs3⟩; obtain ⟨f0, f1, f2, f3⟩ := box_cells (HBX.out _ _ _ _ _ hs3); have HS3 := hid_mk hs3; clear hs3)
        | (go_at_call 109; refine (ansE (HWB.out _ _ HS3.out (HXL.out _ HM1.out)) HM.out).mono ?_; rintro e w3 ⟨rfl, hb3⟩; skip))
      exact ⟨rfl, rfl, (HBL.out _ _ _ _ _ HS3.out).trans hb3⟩
    | ok s2 =>
      have HM := hid_mk hM
      clear hM
      go_enter Tryz.func112, Tryz.ntmps112
      go_wp2_with (first
        | (clear P1; go_at_call 109; refine (ansO HWA.out HM1.out).mono ?_; rintro e w2 ⟨rfl, hs3⟩; obtain ⟨f0, f1, f2, f3⟩ := box_cells (HBX.out _ _ _ _ _ hs3); have HS3 := hid_mk hs3; clear hs3)
        | (go_at_call 109; refine (ansO (HWB.out _ _ HS3.out (HXL.out _ HM1.out)) HM.out).mono ?_; rintro e w3 ⟨rfl, hs4⟩; have HS4 := hid_mk hs4; clear hs4))
      go_end0
      exact ⟨rfl, HB1.out _ _ _ _ _ HS4.out⟩
end Go.Proofs.YtbjianmjdadehaaGreatDoor
namespace Go.Proofs.YtbjianmjdadehaaGreatDoor
open Go.RowKit

def IStS (T : Nd) : Prop := ∀ (K : IK) (w0 : World) (O : Nat → Prop) (s : CS) (cx : Cx) (sels : Nat) (w : World) (v : Value), cx.outs = cx.loops + sels → IS K w0 O s cx.ret cx.loops sels w → IEnv K w → INd K w T v → s.2.length + T.size ≤ K.N → T.sOk = true → s.1 ≠ [] → s.1.length + 1 ≤ s.2.length → cx.loops + T.size ≤ 1099511627776 → sels + T.size ≤ 1099511627776 →
  Calls Tryz.prog 97 #[.pointer (some ⟨K.cb, 0, none⟩), T.val v] w (Ans K w ((mnT K.F T).st cx s) fun s1 e w1 => e = .returned (.tuple #[]) ∧ IS K w0 O s1 cx.ret cx.loops sels w1)
set_option maxHeartbeats 4000000 in
set_option maxRecDepth 100000 in
theorem ists_of {T : Nd} (h4 : T.kind = 4) (ih : ∀ i, i < T.len → IStS (T.kids i)) (K : IK) (w0 : World) (O : Nat → Prop) (s : CS) (cx : Cx) (sels : Nat) (w : World) (v : Value) (hcx : cx.outs = cx.loops + sels) (hS : IS K w0 O s cx.ret cx.loops sels w) (hE : IEnv K w) (hN : INd K w T v) (hfit : s.2.length + T.size ≤ K.N) (hok : T.sOk = true) (hsne : s.1 ≠ []) (hd : s.1.length ≤ s.2.length) (hl : cx.loops + T.size ≤ 1099511627776 + 1) (ho : sels + T.size ≤ 1099511627776 + 1) :
    Calls Tryz.prog 81 #[.pointer (some ⟨K.cb, 0, none⟩), T.val v] w (Ans K w ((mnT K.F T).sts cx s) fun s1 e w1 => e = .returned (.tuple #[]) ∧ IS K w0 O s1 cx.ret cx.loops sels w1) := by
  rw [show (mnT K.F T).sts cx s = forN (fun i => (mnT K.F (T.kids i)).st cx) T.len (take0 s) by rw [stsM_at K.F (by omega)]; rfl]
  have hsz : 0 < T.size := by rw [T.size_eq]; omega
  have hoks := so_4 h4 hok
  have hn := T.fine_len hN.fine
  obtain ⟨a, cap, hv, hcap, hq⟩ := row_eq.1 hN.row
  subst hv
  obtain ⟨O1, hs1, hback1, hbox1, hbl1⟩ := hS.boxed (.cells #[.int .i64 T.kind, .int .i64 T.num, .string T.name, .slice a T.len cap] 30)
  have HBX := hid_mk hbox1
  have HBL := hid_mk hbl1
  have HB1 := hid_mk hback1
  have HTK := hid_mk (take_any hs1 (by omega))
  have HKID := hid_mk (fun (h0 : T.len ≠ 0) => ck_kid hN.row h0)
  have HAT : Hid (∀ j st, j ≤ T.len → forN (fun i => (mnT K.F (T.kids i)).st cx) j (take0 s) = .ok st → st.2.length = kidAt T s.2.length j ∧ st.1 ≠ [] ∧ st.1.length + 1 ≤ st.2.length) := by
    intro j st hj h
    obtain ⟨r1, r2, r3, r4⟩ := (StL.forN (g := fun i => (T.kids i).size) (fun i hi => (mn_len K.F (T.kids i)).st (hoks i hi) cx) hj) (take0 s) st hsne h
    rw [take0_len] at r3
    refine ⟨by rw [r3]; unfold kidAt; omega, fun e => ?_, ?_⟩
    · rw [e] at r2; exact hsne (List.length_eq_zero_iff.1 r2.symm)
    · have : st.1.length = s.1.length := r2
      omega
  have HIH := hid_mk (fun (j : Nat) (hj : j < T.len) (u : Value) (hr : Row 0 K.lo w (T.kids j) u) (W : World) (st : CS) (hW : IS K (w.alloc (.cells #[.int .i64 T.kind, .int .i64 T.num, .string T.name, .slice a T.len cap] 30)) O1 st cx.ret cx.loops sels W) (hst : forN (fun i => (mnT K.F (T.kids i)).st cx) j (take0 s) = .ok st) => ih j hj K _ O1 st cx sels W u hcx hW (hE.later (hbl1 _ _ _ _ _ hW)) ((hN.kid hj hr).later (hbl1 _ _ _ _ _ hW)) (by have := (HAT.out j st (Nat.le_of_lt hj) hst).1; have := kidAt_le T s.2.length hj; omega) (hoks j hj) (HAT.out j st (Nat.le_of_lt hj) hst).2.1 (HAT.out j st (Nat.le_of_lt hj) hst).2.2 (by have := kid_size T hj; omega) (by have := kid_size T hj; omega))
  unfold Nd.val at *
  clear hS hE hN hs1 hback1 hbox1 hbl1 hok hq ih hfit hsne hd hoks h4
  generalize s.2.length = q at *
  go_enter Tryz.func81, Tryz.ntmps81
  go_wp2_with (first
    | (go_at_call 60; refine HTK.out.mono ?_; rintro e w1 ⟨rfl, hs1⟩; obtain ⟨b0, b1, b2, b3⟩ := box_cells (HBX.out _ _ _ _ _ hs1); have HS1 := hid_mk hs1; clear hs1))
  go_loopw [11] (fun i wr => ∃ j : Nat, j ≤ T.len ∧ i = .int .i64 j ∧ ∃ st, forN (fun i => (mnT K.F (T.kids i)).st cx) j (take0 s) = .ok st ∧ IS K (w.alloc (.cells #[.int .i64 T.kind, .int .i64 T.num, .string T.name, .slice a T.len cap] 30)) O1 st cx.ret cx.loops sels wr) (fun i _ => T.len - (intOf i).toNat)
  case atStart => exact ⟨0, Nat.zero_le _, rfl, take0 s, rfl, HS1.out⟩
  case round =>
    obtain ⟨j, hj, rfl, st, hst, hss⟩ := hrel
    by_cases hlt : j < T.len
    · have hji : (j : Int) < (T.len : Int) := by omega
      obtain ⟨g, off, cap', hv', hgl, hcap', hkid⟩ := HKID.out (by omega)
      injection hv' with ev1 ev2 ev3
      subst ev1
      subst ev3
      obtain ⟨u, hcn, hrn⟩ := hkid j hlt
      obtain ⟨au, qu, hu, hcu, hqu⟩ := row_eq.1 hrn
      subst hu
      clear hqu
      obtain ⟨c0, c1, c2, c3⟩ := hcn _ (HBL.out _ _ _ _ _ hss)
      have HW := hid_mk (fun o => HIH.out j hlt _ hrn (wr.alloc o) st (hss.alloc o) hst)
      have HNX : Hid (forN (fun i => (mnT K.F (T.kids i)).st cx) (j + 1) (take0 s) = (mnT K.F (T.kids j)).st cx st) := by unfold Hid; simp only [forN, hst]; rfl
      have HBO := hid_mk (fun o => (HBL.out _ _ _ _ _ hss).trans (hss.box o))
      unfold Nd.val at HW
      clear hkid hcn hrn hss
      cases hM : (mnT K.F (T.kids j)).st cx st with
      | error p =>
        have HM := hid_mk hM
        have HER : Hid (forN (fun i => (mnT K.F (T.kids i)).st cx) T.len (take0 s) = .error p) := forN_err (HNX.out.trans hM) (show j + 1 ≤ T.len by omega)
        clear hM hst
        go_wp2_with (first
          | (go_at_call 97; refine (ansE (HW.out _) HM.out).mono ?_; rintro e w2 ⟨rfl, hb2⟩; skip))
        refine ⟨rfl, ?_⟩
        rw [ans_err HER.out]
        exact ⟨rfl, (HBO.out _).trans hb2⟩
      | ok s1 =>
        have HM := hid_mk hM
        clear hM hst
        go_wp2_with (first
          | (go_at_call 97; refine (ansO (HW.out _) HM.out).mono ?_; rintro e w2 ⟨rfl, hs2⟩; have HS2 := hid_mk hs2; clear hs2))
        exact ⟨⟨j + 1, by omega, by go_num, s1, by rw [HNX.out, HM.out], HS2.out⟩, by simp [intOf]; omega⟩
    · obtain rfl : j = T.len := by omega
      have HSS := hid_mk hss
      have HST := hid_mk hst
      clear hss hst
      go_wp2
      go_end0
      rw [ans_ok HST.out]
      exact ⟨rfl, HB1.out _ _ _ _ _ HSS.out⟩
set_option maxHeartbeats 4000000 in
set_option maxRecDepth 100000 in
theorem iblk_of {T : Nd} (h4 : T.kind = 4) (ih : ∀ i, i < T.len → IStS (T.kids i)) (K : IK) (w0 : World) (O : Nat → Prop) (s : CS) (cx : Cx) (sels : Nat) (w : World) (v : Value) (hcx : cx.outs = cx.loops + sels) (hS : IS K w0 O s cx.ret cx.loops sels w) (hE : IEnv K w) (hN : INd K w T v) (hfit : s.2.length + T.size ≤ K.N) (hok : T.sOk = true) (hd : s.1.length + 1 ≤ s.2.length) (hl : cx.loops + T.size ≤ 1099511627776 + 1) (ho : sels + T.size ≤ 1099511627776 + 1) :
    Calls Tryz.prog 107 #[.pointer (some ⟨K.cb, 0, none⟩), T.val v] w (Ans K w (within [] ((mnT K.F T).sts cx) s) fun s1 e w1 => e = .returned (.tuple #[]) ∧ IS K w0 O s1 cx.ret cx.loops sels w1) := by
  obtain ⟨O1, hs1, hback1, hbox1, hbl1⟩ := hS.boxed (.cells #[.int .i64 T.kind, .int .i64 T.num, .string T.name, v] 30)
  have HBX := hid_mk hbox1
  have HBL := hid_mk hbl1
  have HB1 := hid_mk hback1
  have HEN := hid_mk (enter_any hs1 (by omega))
  have HST := hid_mk (fun (W : World) (hW : IS K (w.alloc (.cells #[.int .i64 T.kind, .int .i64 T.num, .string T.name, v] 30)) O1 ([] :: s.1, s.2) cx.ret cx.loops sels W) => ists_of h4 ih K _ O1 ([] :: s.1, s.2) cx sels W v hcx hW (hE.later (hbl1 _ _ _ _ _ hW)) (hN.later (hbl1 _ _ _ _ _ hW)) hfit hok (by simp) (by show ([] :: s.1).length ≤ s.2.length; simp; omega) hl ho)
  have HNE : Hid (∀ s1, (mnT K.F T).sts cx ([] :: s.1, s.2) = .ok s1 → s1.1 ≠ []) := by
    intro s1 h e
    have := ((mn_len K.F T).sts hok h4 cx) _ s1 (by simp) h
    rw [e] at this
    have := this.2.1
    simp at this
  unfold within
  unfold Nd.val at *
  clear hS hE hN hs1 hback1 hbox1 hbl1 hok ih hfit hd h4
  cases hM : (mnT K.F T).sts cx ([] :: s.1, s.2) with
  | error p =>
    have HM := hid_mk hM
    clear hM
    rw [CR.bind_error]
    go_enter Tryz.func107, Tryz.ntmps107
    go_wp2_with (first
      | (go_at_call 79; refine HEN.out.mono ?_; rintro e w1 ⟨rfl, hs1⟩; obtain ⟨b0, b1, b2, b3⟩ := box_cells (HBX.out _ _ _ _ _ hs1); have HS1 := hid_mk hs1; clear hs1)
      | (go_at_call 81; refine (ansE (HST.out _ HS1.out) HM.out).mono ?_; rintro e w2 ⟨rfl, hb2⟩; skip))
    exact ⟨rfl, rfl, (HBL.out _ _ _ _ _ HS1.out).trans hb2⟩
  | ok s1 =>
    have HM := hid_mk hM
    clear hM
    rw [CR.bind_ok]
    go_enter Tryz.func107, Tryz.ntmps107
    go_wp2_with (first
      | (go_at_call 79; refine HEN.out.mono ?_; rintro e w1 ⟨rfl, hs1⟩; obtain ⟨b0, b1, b2, b3⟩ := box_cells (HBX.out _ _ _ _ _ hs1); have HS1 := hid_mk hs1; clear hs1)
      | (go_at_call 81; refine (ansO (HST.out _ HS1.out) HM.out).mono ?_; rintro e w2 ⟨rfl, hs2⟩; have HS2 := hid_mk hs2; clear hs2)
      | (go_at_call 82; refine (leaveI_any HS2.out (HNE.out _ HM.out)).mono ?_; rintro e w3 ⟨rfl, hs3⟩; have HS3 := hid_mk hs3; clear hs3))
    go_end0
    exact ⟨rfl, HB1.out _ _ _ _ _ HS3.out⟩
end Go.Proofs.YtbjianmjdadehaaGreatDoor
namespace Go.Proofs.YtbjianmjdadehaaGreatDoor
open Go.RowKit

theorem varLen_nil (E : Sc) : varLen ([] :: E) = varLen E := by simp [varLen]
theorem st4_eq {F T : Nd} {cx : Cx} {s : CS} (h4 : T.kind = 4) : (mnT F T).st cx s = within [] ((mnT F T).sts cx) s := by
  rw [stM_at F (by omega), stsM_at F (by omega)]
  unfold stM
  rw [if_pos h4]
theorem IS.setN {K : IK} {w0 : World} {O : Nat → Prop} {s : CS} {ret loops sels : Int} {w : World} (h : IS K w0 O s ret loops sels w) (n : Int) :
    IS K w0 O s ret n sels (w.setCell ⟨K.cb, 7, none⟩ (.int .i64 n)) ∧ IS K w0 O s ret loops n (w.setCell ⟨K.cb, 8, none⟩ (.int .i64 n)) := by
  obtain ⟨sv, tv, bs, h1, h2⟩ := h.is
  obtain ⟨f0, f2, f3, hb⟩ := h1.blk
  have hcu := h.ok.cu
  have go : ∀ (i : Nat) (l o : Int), ((#[.map (some K.mf), sv, tv, f0, .int .i64 ret, f2, f3, .int .i64 loops, .int .i64 sels] : Array Value).set! i (.int .i64 n)) = #[.map (some K.mf), sv, tv, f0, .int .i64 ret, f2, f3, .int .i64 l, .int .i64 o] → IS K w0 O s ret l o (w.setCell ⟨K.cb, i, none⟩ (.int .i64 n)) := by
    intro i l o e
    have hr2 : IRaw K (w.setCell ⟨K.cb, i, none⟩ (.int .i64 n)) sv tv bs s ret l o := by
      refine ⟨⟨f0, f2, f3, ?_⟩, ownsRow_setCell_below h1.sc (show K.cb < K.up from hcu) _, ownsRow_setCell_below h1.ty (show K.cb < K.up from hcu) _, h1.maps.same fun b hb' => Below.heap_setCell w ⟨K.cb, i, none⟩ _ b fun e' => ?_⟩
      · rw [heap_setCell_same w K.cb i _ _ _ hb, ← e]; simp
      · have := (h1.maps.mem b hb').1; have e'' : b = K.cb := e'; omega
    exact h.step h1 h2 hr2 (fun k hk => .inl hk) h.len (Kept.setCell (S := fun k => k = K.cb ∨ Own sv tv bs k) ⟨K.cb, i, none⟩ _ (.inl rfl))
  exact ⟨go 7 n sels rfl, go 8 loops n rfl⟩
theorem IS.nums {K : IK} {w0 : World} {O : Nat → Prop} {s : CS} {ret loops sels : Int} {w : World} (h : IS K w0 O s ret loops sels w) : w.cell? ⟨K.cb, 4, none⟩ = some (.int .i64 ret) ∧ w.cell? ⟨K.cb, 7, none⟩ = some (.int .i64 loops) ∧ w.cell? ⟨K.cb, 8, none⟩ = some (.int .i64 sels) ∧ w.frozen? ⟨K.cb, 7, none⟩ = false ∧ w.frozen? ⟨K.cb, 8, none⟩ = false := by
  obtain ⟨sv, tv, bs, h1, h2⟩ := h.is
  exact ⟨h1.cells.2.2.2.1, h1.cells.2.2.2.2.1, h1.cells.2.2.2.2.2, h1.free 7, h1.free 8⟩
set_option maxHeartbeats 4000000 in
set_option maxRecDepth 100000 in
theorem iif_a (hVar : IVar) {T : Nd} (hk : T.kind = 10) (hl : T.len = 2) (hrec : ∀ U : Nd, U.size < T.size → IStS U) (K : IK) (w0 : World) (O : Nat → Prop) (s : CS) (cx : Cx) (sels : Nat) (w : World) (v : Value) (hcx : cx.outs = cx.loops + sels) (hS : IS K w0 O (take0 s) cx.ret cx.loops sels w) (hE : IEnv K w) (hN : INd K w T v) (hfit : s.2.length + T.size ≤ K.N) (hok : T.sOk = true) (hsne : s.1 ≠ []) (hd : s.1.length + 1 ≤ s.2.length) (hlo1 : cx.loops + T.size ≤ 1099511627776) (hou1 : sels + T.size ≤ 1099511627776) :
    Calls Tryz.prog 114 #[.pointer (some ⟨K.cb, 0, none⟩), T.val v] w (Ans K w (CR.bind (wantM (exT K.F (T.kids 0)) 2 (take0 s)) fun s1 => within [] ((mnT K.F (T.kids 1)).sts cx) s1) fun s1 e w1 => e = .returned (.tuple #[]) ∧ IS K w0 O s1 cx.ret cx.loops sels w1) := by
  obtain ⟨_, he0, ⟨hb1, ho1⟩, _⟩ := so_10 hk hok
  have HCX := hid_mk hcx
  obtain ⟨g, off, cap, hv, hgl, hcap, hkid⟩ := ck_kid hN.row (by omega)
  subst hv
  obtain ⟨u0, hc0, hr0⟩ := hkid 0 (by omega)
  simp only [Nat.zero_mul, Nat.add_zero] at hc0
  have HC0 := hid_mk hc0
  obtain ⟨u1, hc1, hr1⟩ := hkid 1 (by omega)
  simp only [Nat.one_mul] at hc1
  have HC1 := hid_mk hc1
  obtain ⟨O1, hs1, hback1, hbox1, hbl1⟩ := hS.boxed (.cells #[.int .i64 T.kind, .int .i64 T.num, .string T.name, .slice (some ⟨g, off, none⟩) T.len cap] 30)
  have HBX := hid_mk hbox1
  have HBL := hid_mk hbl1
  have HB1 := hid_mk hback1
  have HS1 := hid_mk hs1
  have hlo : K.lo ≤ w.heap.size := by have := hS.lt; have := hS.ok.cl; omega
  have hfew := hS.ok.few
  have HW0 := hid_mk (fun (W : World) (st : CS) (r l o : Int) (ty : Int) (hW : IS K (w.alloc (.cells #[.int .i64 T.kind, .int .i64 T.num, .string T.name, .slice (some ⟨g, off, none⟩) T.len cap] 30)) O1 st r l o W) (hf : st.2.length + (T.kids 0).size ≤ K.N) => iwant_of (iex_every hVar (T.kids 0)) K _ O1 st r l o W u0 ty hW (hE.later (hbl1 _ _ _ _ _ hW)) ((hN.kid (by omega) hr0).later (hbl1 _ _ _ _ _ hW)) hf he0)
  have HK1 := hid_mk (fun (W : World) (st : CS) (hW : IS K (w.alloc (.cells #[.int .i64 T.kind, .int .i64 T.num, .string T.name, .slice (some ⟨g, off, none⟩) T.len cap] 30)) O1 st cx.ret cx.loops sels W) (hf : st.2.length + (T.kids 1).size ≤ K.N) (hd : st.1.length + 1 ≤ st.2.length) => iblk_of hb1 (fun j hj => hrec _ (by have := kid_size (T.kids 1) hj; have := kid_size T (i := 1) (by omega); omega)) K _ O1 st cx sels W u1 HCX.out hW (hE.later (hbl1 _ _ _ _ _ hW)) ((hN.kid (by omega) hr1).later (hbl1 _ _ _ _ _ hW)) hf ho1 hd (by have := kid_size T (i := 1) (by omega); omega) (by have := kid_size T (i := 1) (by omega); omega))
  have HF0 := hid_mk (take_fit hfit (i := 0) (by omega))
  have HX1 : Hid (∀ s1, wantM (exT K.F (T.kids 0)) 2 (take0 s) = .ok s1 → s1.2.length + (T.kids 1).size ≤ K.N ∧ s1.1.length + 1 ≤ s1.2.length) := by
    intro s1 h
    obtain ⟨q1, q2⟩ := (ex_len K.F _ he0).want 2 _ _ h
    have := kidAt_le T s.2.length (i := 1) (by omega)
    unfold kidAt at this; simp only [sumTo] at this
    rw [take0_len] at q2
    refine ⟨by omega, ?_⟩
    rw [q1]; show s.1.length + 1 ≤ _; omega
  unfold Nd.val at *
  have hgw : g < w.heap.size := by omega
  have hgw1 : g < w.heap.size + 1 := by omega
  have hgw2 : g < w.heap.size + 1 + 1 := by omega
  have hgn0 : ¬ g = w.heap.size := by omega
  have hgn1 : ¬ g = w.heap.size + 1 := by omega
  have hgn2 : ¬ g = w.heap.size + 1 + 1 := by omega
  obtain ⟨c00, c01, c02, c03⟩ := HC0.out w (Below.refl _ _)
  obtain ⟨c10, c11, c12, c13⟩ := HC1.out w (Below.refl _ _)
  have hpos : 0 < T.len := by omega
  have hpos1 : (1 : Int) < (T.len : Int) := by omega
  have hpos1n : 1 < T.len := by omega
  have hl3 : ((T.len : Int) == 3) = false := beq_eq_false_iff_ne.2 (by omega)
  clear hS hE hN hs1 hback1 hbox1 hbl1 hkid hc0 hr0 hc1 hr1 hok hk hl hrec hcx hfit hb1 ho1 he0
  cases hM : wantM (exT K.F (T.kids 0)) 2 (take0 s) with
  | error p =>
    have HM := hid_mk hM
    clear hM
    rw [CR.bind_error]
    go_enter Tryz.func114, Tryz.ntmps114
    go_wp2_with (first
      | (go_at_call 109; refine (ansE (HW0.out _ _ _ _ _ 2 HS1.out HF0.out) HM.out).mono ?_; rintro e w2 ⟨rfl, hb2⟩; skip))
    exact ⟨rfl, rfl, (HBL.out _ _ _ _ _ HS1.out).trans hb2⟩
  | ok s1 =>
    have HM := hid_mk hM
    clear hM
    rw [CR.bind_ok]
    have HM1 := HM
    obtain ⟨hx1, hx2⟩ := HX1.out _ HM1.out
    have HX := hid_mk hx1
    have HD := hid_mk hx2
    clear hx1 hx2
    cases hM : within [] ((mnT K.F (T.kids 1)).sts cx) s1 with
    | error p =>
      have HM := hid_mk hM
      clear hM
      go_enter Tryz.func114, Tryz.ntmps114
      go_wp2_with (first
        | (go_at_call 109; refine (ansO (HW0.out _ _ _ _ _ 2 HS1.out HF0.out) HM1.out).mono ?_; rintro e w2 ⟨rfl, hs2⟩; obtain ⟨b0, b1, b2, b3⟩ := box_cells (HBX.out _ _ _ _ _ hs2); obtain ⟨c00, c01, c02, c03⟩ := HC0.out _ (HBL.out _ _ _ _ _ hs2); obtain ⟨c10, c11, c12, c13⟩ := HC1.out _ (HBL.out _ _ _ _ _ hs2); have HS2 := hid_mk hs2; clear hs2)
        | (go_at_call 107; refine (ansE (HK1.out _ _ HS2.out HX.out HD.out) HM.out).mono ?_; rintro e w3 ⟨rfl, hb3⟩; skip))
      exact ⟨rfl, rfl, (HBL.out _ _ _ _ _ HS2.out).trans hb3⟩
    | ok s2 =>
      have HM := hid_mk hM
      clear hM
      go_enter Tryz.func114, Tryz.ntmps114
      go_wp2_with (first
        | (go_at_call 109; refine (ansO (HW0.out _ _ _ _ _ 2 HS1.out HF0.out) HM1.out).mono ?_; rintro e w2 ⟨rfl, hs2⟩; obtain ⟨b0, b1, b2, b3⟩ := box_cells (HBX.out _ _ _ _ _ hs2); obtain ⟨c00, c01, c02, c03⟩ := HC0.out _ (HBL.out _ _ _ _ _ hs2); obtain ⟨c10, c11, c12, c13⟩ := HC1.out _ (HBL.out _ _ _ _ _ hs2); have HS2 := hid_mk hs2; clear hs2)
        | (go_at_call 107; refine (ansO (HK1.out _ _ HS2.out HX.out HD.out) HM.out).mono ?_; rintro e w3 ⟨rfl, hs3⟩; obtain ⟨b0, b1, b2, b3⟩ := box_cells (HBX.out _ _ _ _ _ hs3); have HS3 := hid_mk hs3; clear hs3))
      go_end0
      exact ⟨rfl, HB1.out _ _ _ _ _ HS3.out⟩
end Go.Proofs.YtbjianmjdadehaaGreatDoor
