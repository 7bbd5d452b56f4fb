/- The specification's checker: a function. -/
import Derived.Test.YtbjianmjdadehaaGreatDoorKdO
import Derived.Deep.RegionHeld3
set_option linter.unusedVariables false
namespace Go.Proofs.YtbjianmjdadehaaGreatDoor
open Go.RowKit

theorem fo_of {T : Nd} (h : funcB T = true) : T.kind = 2 ∧ 1 ≤ T.len ∧ (∀ i, i < T.len - 1 → (T.kids i).len = 0 ∧ nameB (T.kids i).name = true ∧ 1 ≤ (T.kids i).num) ∧ (T.kids (T.len - 1)).kind = 4 ∧ (T.kids (T.len - 1)).sOk = true ∧ 0 ≤ T.num := by
  unfold funcB at h
  simp only [Bool.and_eq_true, decide_eq_true_eq] at h
  obtain ⟨⟨⟨⟨h1, h2⟩, h3⟩, h4⟩, h5, h6, h7⟩ := h
  refine ⟨h1, h4, fun i hi => ?_, h6, h7, h3.1⟩
  have := allTo_iff.1 h5 i hi
  unfold paramB at this
  simp only [Bool.and_eq_true, decide_eq_true_eq] at this
  exact ⟨this.2, this.1.1.2, this.1.2.1⟩
def parC (T : Nd) (X : List Int) (n : Nat) : CR CS := forN (paramM T) n ([[]], X ++ [0])
theorem parC_succ (T : Nd) (X : List Int) (n : Nat) : parC T X (n + 1) = CR.bind (parC T X n) (paramM T n) := rfl
theorem parC_at {T : Nd} {X : List Int} {m : Nat} (hp : ∀ i, i < m → (T.kids i).len = 0) : ∀ {n : Nat}, n ≤ m → ∀ s, parC T X n = .ok s → s.2.length = kidAt T X.length n ∧ s.1 ≠ [] ∧ varLen s.1 ≤ n ∧ n ≤ s.2.length := by
  intro n
  induction n with
  | zero =>
    intro _ s e
    injection e with e; subst e
    exact ⟨by simp [kidAt, sumTo], by simp, by simp [varLen], Nat.zero_le _⟩
  | succ n ih =>
    intro hn s e
    rw [parC_succ] at e
    obtain ⟨s0, h1, h2⟩ := bind_inv e
    obtain ⟨q1, q2, q3, q4⟩ := ih (by omega) s0 h1
    unfold paramM at h2
    split at h2
    · cases h2
    · injection h2 with h2; subst h2
      have hz : (T.kids n).size = 1 := by rw [(T.kids n).size_eq, hp n (by omega)]; rfl
      obtain ⟨p1, p2, p3⟩ := push_tail q2 (T.kids n).name (T.kids n).num
      refine ⟨by rw [kidAt_succ, hz]; simp [q1], ?_, ?_, ?_⟩
      · intro h0; apply q2; have h0' : pushV s0.1 (T.kids n).name (T.kids n).num = [] := h0; rw [h0'] at p2; exact List.length_eq_zero_iff.1 p2.symm
      · show varLen (pushV s0.1 (T.kids n).name (T.kids n).num) ≤ _; omega
      · simp; omega
theorem par_decl {T : Nd} {n : Nat} {s : CS} : declC (take0 s) (T.kids n).name (T.kids n).num s.2.length = paramM T n s := rfl

def funC (F T : Nd) (X : List Int) (E : Sc) : CR CS := CR.bind (funM F T X) fun X' => .ok (E, X')
theorem funC_1 {F T : Nd} {X : List Int} {e : Int × Nat} (h : parC T X (T.len - 1) = .error e) : funC F T X [] = .error e := by
  unfold funC funM; unfold parC at h; rw [h]; rfl
theorem funC_2 {F T : Nd} {X : List Int} {s1 : CS} {e : Int × Nat} (h : parC T X (T.len - 1) = .ok s1) (h2 : seqC F (T.kids (T.len - 1)) ⟨T.num, 0, 0⟩ 0 (T.kids (T.len - 1)).len (.ok (take0 s1)) = .error e) (hk : (T.kids (T.len - 1)).kind = 4) : funC F T X [] = .error e := by
  unfold funC funM; unfold parC at h; rw [h, CR.bind_ok, stsM_at F (by omega)]
  unfold seqC at h2
  simp only [CR.bind_ok, Nat.zero_add] at h2
  unfold listM
  rw [h2]; rfl
theorem funC_3 {F T : Nd} {X : List Int} {s1 s2 : CS} (h : parC T X (T.len - 1) = .ok s1) (h2 : seqC F (T.kids (T.len - 1)) ⟨T.num, 0, 0⟩ 0 (T.kids (T.len - 1)).len (.ok (take0 s1)) = .ok s2) (hk : (T.kids (T.len - 1)).kind = 4) : funC F T X s2.1 = if T.num ≠ 0 ∧ endsB (T.kids (T.len - 1)) = false then .error (9, X.length) else .ok s2 := by
  unfold funC funM; unfold parC at h; rw [h, CR.bind_ok, stsM_at F (by omega)]
  unfold seqC at h2
  simp only [CR.bind_ok, Nat.zero_add] at h2
  unfold listM
  rw [h2, CR.bind_ok]
  split <;> rfl

theorem fresh_kept {K : SK} {w w1 : World} {o : Obj} {r : Int} (hb : Below (w.alloc o).heap.size (w.alloc o) w1) : ∀ W σ r' l o', SS K (freshW K w1 r) none σ r' l o' W → Kept (K.S none) w W := by
  intro W σ r' l o' h
  have h1 : Kept (K.S none) w w1 := kept_of (((Below.refl _ _).alloc (Nat.le_refl _) o).trans (hb.mono (by simp))) _
  have h2 : Kept (K.S none) w1 (freshW K w1 r) := ⟨by simp [freshW, World.setCell], by simp [freshW, World.setCell], by simp [freshW, World.setCell], by rw [freshW_size]; exact Nat.le_refl _, fun k _ hn => freshW_heap K w1 r k (fun e => hn (.inl e))⟩
  exact (h1.trans h2 (fun _ _ h => h)).trans h.kept (fun _ _ h => h)
def FuS (K : SK) (T : Nd) : Prop := ∀ (own : Option Nat) (E : Sc) (X : List Int) (ret : Int) (w : World) (v : Value), SS K w own (.ok (E, X)) ret 0 0 w → SEnv K w → SNd K w T v → X.length + T.size ≤ K.N →
  Calls Tryz.prog 39 #[.pointer (some ⟨K.cb, 0, none⟩), T.val v, .int .i64 X.length] w fun e w' => e = .returned (.tuple #[]) ∧ ∃ w2 own2 E', SS K w2 own2 (funC K.F T X E') T.num 0 0 w' ∧ Below K.lo w w' ∧ Kept (K.S none) w w'

set_option maxHeartbeats 8000000 in
set_option maxRecDepth 100000 in
theorem fun_of {K : SK} {T : Nd} (hF : funcB T = true) : FuS K T := by
  intro own E X ret w v hS hE hN hfit
  obtain ⟨hk, hl, hpar, hB4, hBok, hn0⟩ := fo_of hF
  have hfew := hS.ok.few
  have hlt := hS.lt
  have hcl := hS.ok.cl
  have hn := T.fine_len hN.fine
  obtain ⟨m, hm⟩ : ∃ m, T.len = m + 1 := ⟨T.len - 1, by omega⟩
  have hm1 : T.len - 1 = m := by omega
  obtain ⟨g, off, cap, hv, hgl, hcap, hkid⟩ := ck_kid hN.row (by omega)
  subst hv
  rw [hm1] at hB4 hBok
  have hfit1 : X.length + 1 ≤ K.N := by have := T.size_eq; omega
  have HATS := hid_mk (fun o => ats_any T (w.alloc o) _ K.lo X.length hN.fine (by simp; omega) (row_below (hS.box o) (Nat.le_refl _) hN.row) hN.cost (by omega))
  have HGO := hid_mk (fun (w1 : World) (u : Value) (t : TypeId) hb ha => sfresh_of (w1 := w1) (T := T) (v := .slice (some ⟨g, off, none⟩) T.len cap) (p := X.length) (u := u) (t := t) hS T.num hb ha)
  have HPA := hid_mk (fun n (hn : n ≤ m) => parC_at (X := X) (m := m) (fun i hi => (hpar i (by omega)).1) hn)
  have hka := kidAt_le T X.length (i := m) (by omega)
  have HKID := hid_mk hkid
  have HEV := hid_mk hE
  have HND := hid_mk hN
  have HM := hid_mk hm
  have HSC := hid_mk (fun o w1 (hb : Below (w.alloc o).heap.size (w.alloc o) w1) => (hS.alloc o).calm hb)
  have hmix : Tryz.prog.follows Departure.mixedOrders = true := by kernel_rfl
  unfold Nd.val at *
  have HKL := hid_mk (fun i (h : i < T.len) => kidAt_le T X.length h)
  have hL1 : (T.len : Int) - 1 = m := by omega
  have hmT : m < T.len := by omega
  have hmI : (m : Int) < (T.len : Int) := by omega
  have HK := hid_mk hk
  have HM1 := hid_mk hm1
  have HB4 := hid_mk hB4
  have HBO := hid_mk hBok
  clear hS hE hN hk hpar hkid hF hm hm1 hB4 hBok
  generalize hp : X.length = p at *
  go_enter Tryz.func39, Tryz.ntmps39
  go_wp2_with (go_at_call 36; go_loud (refine (HATS.out _).mono ?_; rintro e w1 ⟨u, rfl, hats, hb1⟩; obtain ⟨hs1, hgo⟩ := HGO.out w1 u _ hb1 hats; have hq := HSC.out _ w1 hb1; have f7 := hq.free 7; have f8 := hq.free 8; have f9 := hq.free 9; have b1 : w1.cell? ⟨w.heap.size, 1, none⟩ = some (.int .i64 T.num) := (hb1.cell (p := ⟨w.heap.size, 1, none⟩) (by simp)).trans (by simp); have b3 : w1.cell? ⟨w.heap.size, 3, none⟩ = some (.slice (some ⟨g, off, none⟩) T.len cap) := (hb1.cell (p := ⟨w.heap.size, 3, none⟩) (by simp)).trans (by simp); have hw1 := hq.lt; obtain ⟨vv0, code0, place0, deep0, zs0, vs0, hr0, _⟩ := hq.is; obtain ⟨k0, k1, k2, k3, k4, k5, k6, k7, k8, k9, k10, k11⟩ := hr0.cells; obtain ⟨ga, oa, ca, rfl, hca, hav⟩ := hgo.ats (by omega); have HKP := hid_mk (fresh_kept (K := K) (r := T.num) hb1); have HG := hid_mk hgo; have HAV := hid_mk hav; have HS1 := hid_mk (hs1.take (by show X.length + 1 ≤ K.N; rw [hp]; exact hfit1)); clear hs1 hgo hq hats hb1 hr0 hav))
  go_loopw [8] (fun i wr => ∃ n : Nat, n ≤ m ∧ i = .int .i64 n ∧ SS K (freshW K w1 T.num) none (parC T X n) T.num 0 0 wr) (fun i _ => m - (intOf i).toNat)
  case atStart => exact ⟨0, Nat.zero_le _, rfl, HS1.out⟩
  case round =>
    obtain ⟨n, hn', rfl, hss⟩ := hrel
    have hbk := HG.out.below _ _ _ _ _ hss
    obtain ⟨d0, d1, d2, d3⟩ := HG.out.box _ _ _ _ _ hss
    cases hq : parC T X n with
    | error e0 =>
      rw [hq] at hss
      obtain ⟨code, k5', hz⟩ := hss.code1
      have HSS := hid_mk hss
      have HBKK := hid_mk hbk
      have HQ : Hid (parC T X (T.len - 1) = .error e0) := by unfold Hid; rw [HM1.out]; exact forN_err hq hn'
      clear hss hq hbk
      by_cases hlt : n < m
      all_goals go_wp2
      all_goals go_end0
      all_goals exact ⟨rfl, _, none, [], by rw [funC_1 HQ.out]; exact HSS.out, HBKK.out, HKP.out _ _ _ _ _ HSS.out⟩
    | ok st =>
      obtain ⟨hp1, hp2, hp3, hp4⟩ := HPA.out n hn' st hq
      rw [hq] at hss
      have k5' := hss.code0
      by_cases hlt : n < m
      · have hnT : n < T.len := by omega
        have hnI : (n : Int) < (T.len : Int) := by omega
        have hkl := HKL.out n hnT
        obtain ⟨un, hcn, hrn⟩ := HKID.out n hnT
        obtain ⟨c0, c1, c2, c3⟩ := hcn _ hbk
        have an := HAV.out _ _ _ _ _ hss n hnT
        have hsz0 : 0 < (T.kids n).size := by rw [(T.kids n).size_eq]; omega
        have hst := (hss.take (by omega)).drew
        have HDE := hid_mk (declare_any hst (T.kids n).name (T.kids n).num (kidAt T p n) hp2 (by rw [take0_len]; show varLen st.1 + 1 ≤ _; omega))
        have HPD : Hid (declC (take0 st) (T.kids n).name (T.kids n).num (kidAt T p n) = paramM T n st) := by unfold Hid; rw [← hp1]; rfl
        have HQ := hid_mk hq
        rw [HPD.out] at HDE
        clear hss hst hq hbk hcn hrn
        go_wp2
        go_still_tail 17, hmix
        go_wp2_with (go_at_call 49; refine HDE.out.mono ?_; rintro e w5 ⟨rfl, hs5⟩; have HS5 := hid_mk hs5; clear hs5)
        refine ⟨⟨n + 1, by omega, by go_num, ?_⟩, by simp [intOf]; omega⟩
        rw [parC_succ, HQ.out]
        exact HS5.out
      · obtain rfl : n = m := by omega
        have hkl := HKL.out n hmT
        obtain ⟨uB, hcB, hrB⟩ := HKID.out n hmT
        obtain ⟨aB, cB, huB, hcpB, hqB⟩ := row_eq.1 hrB
        subst huB
        have HQB := hid_mk hqB
        obtain ⟨c0, c1, c2, c3⟩ := hcB _ hbk
        have an := HAV.out _ _ _ _ _ hss n hmT
        have hNB := HND.out.kid hmT hrB
        have hsz0 : 0 < (T.kids n).size := by rw [(T.kids n).size_eq]; omega
        have hst := (hss.take (by omega)).drew
        have hNBd := hNB.later hbk.drew
        have hEd := HEV.out.later hbk.drew
        have hwr := hss.lt
        have HATB := hid_mk (ats_any (T.kids n) wr.drew _ K.lo (kidAt T p n) hNB.fine (by show K.lo ≤ wr.heap.size; omega) (row_below hbk.drew (Nat.le_refl _) hrB) hNB.cost (by omega))
        have HSA := hid_mk (fun (w3 : World) (u3 : Value) hb3 ha3 => sat_of (w1 := w3) (T := T.kids n) (u := u3) (p := kidAt T p n) hst hb3 ha3)
        have HSL := hid_mk (fun (w3 : World) (own3 : Option Nat) (u3 : Value) (ha3 : Ats w3 wr.drew.heap.size u3 (T.kids n).len (fun i => (kidAt (T.kids n) (kidAt T p n) i : Nat))) hat3 hbl3 => slist_sat (w1 := w3) (own1 := own3) hEd hNBd ha3 hat3 hbl3)
        have HAL := hid_mk (fun (w3 : World) (own3 : Option Nat) (u3 : Value) us (hL : SList K w3 own3 (T.kids n) (kidAt T p n) 0 (T.kids n).len (.slice aB (T.kids n).len cB) u3 us) (W : World) (hW : SS K w3 own3 (.ok (take0 st)) T.num 0 0 W) => all_of hL (fun i hi => st_every _) _ ⟨T.num, 0, 0⟩ W hW (by omega) (fun i hi => by rw [Nat.zero_add]; exact so_4 HB4.out HBO.out i hi) (fun s' e => by injection e with e; subst e; exact ⟨by rw [take0_len, hp1]; rfl, hp2⟩) (by omega) (fun i hi => by have := kid_size (T.kids n) hi; simp only [Nat.zero_add]; omega) (fun i hi => by have := kid_size (T.kids n) hi; simp only [Nat.zero_add]; omega))
        have HEN := hid_mk (fun W (hb : Below K.lo w W) => en_any (T.kids n) W _ K.lo hNB.fine (Nat.le_trans (by omega) hb.size) (row_below hb (Nat.le_refl _) hrB))
        have HQ : Hid (parC T X (T.len - 1) = .ok st) := by unfold Hid; rw [HM1.out]; exact hq
        have HF2 := hid_mk (fun e h => funC_2 (F := K.F) (e := e) HQ.out h (by rw [HM1.out]; exact HB4.out))
        have HF3 := hid_mk (fun s2 h => funC_3 (F := K.F) (s2 := s2) HQ.out h (by rw [HM1.out]; exact HB4.out))
        have HCB := hid_mk hcB
        have hlo : K.lo ≤ wr.heap.size := by omega
        rw [HM1.out, hp] at HF3
        rw [HM1.out] at HF2
        unfold Nd.val at *
        clear hss hst hq hbk hcB hrB hNB hNBd hEd hqB
        generalize hpb : kidAt T p n = pb at *
        have HPB := hid_mk hpb
        clear hpb
        generalize T.kids n = B at *
        cases hτ : seqC K.F B ⟨T.num, 0, 0⟩ 0 B.len (.ok (take0 st)) with
        | error e0 =>
          have HTA := hid_mk hτ
          clear hτ
          go_wp2
          go_region_held3 (fun W => W.cell? ⟨w.heap.size, 3, none⟩ = some (.slice (some ⟨g, off, none⟩) T.len cap) ∧ W.cell? ⟨g, off + n * 4, none⟩ = some (.int .i64 B.kind) ∧ W.cell? ⟨g, off + n * 4 + 1, none⟩ = some (.int .i64 B.num) ∧ W.cell? ⟨g, off + n * 4 + 2, none⟩ = some (.string B.name) ∧ W.cell? ⟨g, off + n * 4 + 3, none⟩ = some (.slice aB B.len cB) ∧ W.cell? ⟨ga, oa + n, none⟩ = some (.int .i64 (pb : Nat))) (go_keep) (first
            | (go_at_call 36; refine HATB.out.mono ?_; rintro e w3 ⟨u3, rfl, hats3, hb3⟩; obtain ⟨own3, hs3, hback3, hat3, hbl3⟩ := HSA.out w3 u3 hb3 hats3; obtain ⟨us, hsl⟩ := HSL.out w3 own3 u3 hats3 hat3 hbl3; have hf3 := hback3 _ _ _ _ _ hs3; obtain ⟨d0, d1, d2, d3⟩ := HG.out.box _ _ _ _ _ hf3; obtain ⟨c0, c1, c2, c3⟩ := HCB.out _ (HG.out.below _ _ _ _ _ hf3); have an := HAV.out _ _ _ _ _ hf3 n hmT; rw [HPB.out] at an; have HSL3 := hid_mk hsl; have HBK3 := hid_mk hback3; have HS3 := hid_mk hs3; clear hs3 hback3 hat3 hbl3 hsl hats3 hb3 hf3)
            | (go_at_call 50; refine (HAL.out w3 own3 u3 us HSL3.out _ HS3.out).mono ?_; rw [HTA.out]; rintro e w5 ⟨rfl, hs5⟩; have hf5 := HBK3.out _ _ _ _ _ hs5; obtain ⟨d0, d1, d2, d3⟩ := HG.out.box _ _ _ _ _ hf5; obtain ⟨c0, c1, c2, c3⟩ := HCB.out _ (HG.out.below _ _ _ _ _ hf5); have an := HAV.out _ _ _ _ _ hf5 n hmT; rw [HPB.out] at an; obtain ⟨code, k5'', hz⟩ := hf5.code1; have HS5 := hid_mk hf5; have HBL5 := hid_mk (HG.out.below _ _ _ _ _ hf5); clear hs5 hf5))
          go_wp2
          go_end0
          exact ⟨rfl, _, none, [], by rw [HF2.out _ HTA.out]; exact HS5.out, HBL5.out, HKP.out _ _ _ _ _ HS5.out⟩
        | ok s2 =>
          have HTA := hid_mk hτ
          clear hτ
          by_cases h0 : T.num = 0
          · have h0' : (T.num == 0) = true := beq_iff_eq.2 h0
            have h0n : (T.num != 0) = false := by simp only [bne, h0']; rfl
            have H0 := hid_mk h0
            clear h0
            go_wp2
            go_region_held3 (fun W => W.cell? ⟨w.heap.size, 3, none⟩ = some (.slice (some ⟨g, off, none⟩) T.len cap) ∧ W.cell? ⟨g, off + n * 4, none⟩ = some (.int .i64 B.kind) ∧ W.cell? ⟨g, off + n * 4 + 1, none⟩ = some (.int .i64 B.num) ∧ W.cell? ⟨g, off + n * 4 + 2, none⟩ = some (.string B.name) ∧ W.cell? ⟨g, off + n * 4 + 3, none⟩ = some (.slice aB B.len cB) ∧ W.cell? ⟨ga, oa + n, none⟩ = some (.int .i64 (pb : Nat))) (go_keep) (first
              | (go_at_call 36; refine HATB.out.mono ?_; rintro e w3 ⟨u3, rfl, hats3, hb3⟩; obtain ⟨own3, hs3, hback3, hat3, hbl3⟩ := HSA.out w3 u3 hb3 hats3; obtain ⟨us, hsl⟩ := HSL.out w3 own3 u3 hats3 hat3 hbl3; have hf3 := hback3 _ _ _ _ _ hs3; obtain ⟨d0, d1, d2, d3⟩ := HG.out.box _ _ _ _ _ hf3; obtain ⟨c0, c1, c2, c3⟩ := HCB.out _ (HG.out.below _ _ _ _ _ hf3); have an := HAV.out _ _ _ _ _ hf3 n hmT; rw [HPB.out] at an; have HSL3 := hid_mk hsl; have HBK3 := hid_mk hback3; have HS3 := hid_mk hs3; clear hs3 hback3 hat3 hbl3 hsl hats3 hb3 hf3)
              | (go_at_call 50; refine (HAL.out w3 own3 u3 us HSL3.out _ HS3.out).mono ?_; rw [HTA.out]; rintro e w5 ⟨rfl, hs5⟩; have hf5 := HBK3.out _ _ _ _ _ hs5; obtain ⟨d0, d1, d2, d3⟩ := HG.out.box _ _ _ _ _ hf5; obtain ⟨c0, c1, c2, c3⟩ := HCB.out _ (HG.out.below _ _ _ _ _ hf5); have an := HAV.out _ _ _ _ _ hf5 n hmT; rw [HPB.out] at an; have k5'' := hf5.code0; have HS5 := hid_mk hf5; have HBL5 := hid_mk (HG.out.below _ _ _ _ _ hf5); clear hs5 hf5))
            go_wp2
            go_end0
            exact ⟨rfl, _, none, s2.1, by rw [HF3.out _ HTA.out, if_neg (fun h => h.1 H0.out)]; exact HS5.out, HBL5.out, HKP.out _ _ _ _ _ HS5.out⟩
          · have h0' : (T.num == 0) = false := beq_eq_false_iff_ne.2 h0
            have h0n : (T.num != 0) = true := by simp only [bne, h0']; rfl
            have H0 := hid_mk h0
            have hnot : ∀ (x : Bool) (w : World), (Op.unary .not (.bool x)).run Tryz.prog w = .ok (.bool (!x)) w := fun _ _ => rfl
            clear h0
            cases hb : endsB B with
            | true =>
              rw [hb] at HEN
              have HB := hid_mk hb
              clear hb
              go_wp2
              go_region_held3 (fun W => W.cell? ⟨w.heap.size, 3, none⟩ = some (.slice (some ⟨g, off, none⟩) T.len cap) ∧ W.cell? ⟨g, off + n * 4, none⟩ = some (.int .i64 B.kind) ∧ W.cell? ⟨g, off + n * 4 + 1, none⟩ = some (.int .i64 B.num) ∧ W.cell? ⟨g, off + n * 4 + 2, none⟩ = some (.string B.name) ∧ W.cell? ⟨g, off + n * 4 + 3, none⟩ = some (.slice aB B.len cB) ∧ W.cell? ⟨ga, oa + n, none⟩ = some (.int .i64 (pb : Nat))) (go_keep) (first
                | (go_at_call 36; refine HATB.out.mono ?_; rintro e w3 ⟨u3, rfl, hats3, hb3⟩; obtain ⟨own3, hs3, hback3, hat3, hbl3⟩ := HSA.out w3 u3 hb3 hats3; obtain ⟨us, hsl⟩ := HSL.out w3 own3 u3 hats3 hat3 hbl3; have hf3 := hback3 _ _ _ _ _ hs3; obtain ⟨d0, d1, d2, d3⟩ := HG.out.box _ _ _ _ _ hf3; obtain ⟨c0, c1, c2, c3⟩ := HCB.out _ (HG.out.below _ _ _ _ _ hf3); have an := HAV.out _ _ _ _ _ hf3 n hmT; rw [HPB.out] at an; have HSL3 := hid_mk hsl; have HBK3 := hid_mk hback3; have HS3 := hid_mk hs3; clear hs3 hback3 hat3 hbl3 hsl hats3 hb3 hf3)
                | (go_at_call 50; refine (HAL.out w3 own3 u3 us HSL3.out _ HS3.out).mono ?_; rw [HTA.out]; rintro e w5 ⟨rfl, hs5⟩; have hf5 := HBK3.out _ _ _ _ _ hs5; obtain ⟨d0, d1, d2, d3⟩ := HG.out.box _ _ _ _ _ hf5; obtain ⟨c0, c1, c2, c3⟩ := HCB.out _ (HG.out.below _ _ _ _ _ hf5); have an := HAV.out _ _ _ _ _ hf5 n hmT; rw [HPB.out] at an; have k5'' := hf5.code0; have HS5 := hid_mk hf5; have HBL5 := hid_mk (HG.out.below _ _ _ _ _ hf5); clear hs5 hf5))
              go_wp2_with (go_at_call 51; refine (HEN.out _ HBL5.out).mono ?_; rintro e w6 ⟨rfl, hb6⟩; have HS6 := hid_mk (HS5.out.calm hb6); have HBL6 := hid_mk (HBL5.out.trans (hb6.mono (Nat.le_trans (by have := HBL5.out.size; omega) (Nat.le_refl _)))); clear hb6)
              go_end0
              exact ⟨rfl, _, none, s2.1, by rw [HF3.out _ HTA.out, if_neg (fun h => by rw [HB.out] at h; cases h.2)]; exact HS6.out, HBL6.out, HKP.out _ _ _ _ _ HS6.out⟩
            | false =>
              rw [hb] at HEN
              have HB := hid_mk hb
              clear hb
              go_wp2
              go_region_held3 (fun W => W.cell? ⟨w.heap.size, 3, none⟩ = some (.slice (some ⟨g, off, none⟩) T.len cap) ∧ W.cell? ⟨g, off + n * 4, none⟩ = some (.int .i64 B.kind) ∧ W.cell? ⟨g, off + n * 4 + 1, none⟩ = some (.int .i64 B.num) ∧ W.cell? ⟨g, off + n * 4 + 2, none⟩ = some (.string B.name) ∧ W.cell? ⟨g, off + n * 4 + 3, none⟩ = some (.slice aB B.len cB) ∧ W.cell? ⟨ga, oa + n, none⟩ = some (.int .i64 (pb : Nat))) (go_keep) (first
                | (go_at_call 36; refine HATB.out.mono ?_; rintro e w3 ⟨u3, rfl, hats3, hb3⟩; obtain ⟨own3, hs3, hback3, hat3, hbl3⟩ := HSA.out w3 u3 hb3 hats3; obtain ⟨us, hsl⟩ := HSL.out w3 own3 u3 hats3 hat3 hbl3; have hf3 := hback3 _ _ _ _ _ hs3; obtain ⟨d0, d1, d2, d3⟩ := HG.out.box _ _ _ _ _ hf3; obtain ⟨c0, c1, c2, c3⟩ := HCB.out _ (HG.out.below _ _ _ _ _ hf3); have an := HAV.out _ _ _ _ _ hf3 n hmT; rw [HPB.out] at an; have HSL3 := hid_mk hsl; have HBK3 := hid_mk hback3; have HS3 := hid_mk hs3; clear hs3 hback3 hat3 hbl3 hsl hats3 hb3 hf3)
                | (go_at_call 50; refine (HAL.out w3 own3 u3 us HSL3.out _ HS3.out).mono ?_; rw [HTA.out]; rintro e w5 ⟨rfl, hs5⟩; have hf5 := HBK3.out _ _ _ _ _ hs5; obtain ⟨d0, d1, d2, d3⟩ := HG.out.box _ _ _ _ _ hf5; obtain ⟨c0, c1, c2, c3⟩ := HCB.out _ (HG.out.below _ _ _ _ _ hf5); have an := HAV.out _ _ _ _ _ hf5 n hmT; rw [HPB.out] at an; have k5'' := hf5.code0; have HS5 := hid_mk hf5; have HBL5 := hid_mk (HG.out.below _ _ _ _ _ hf5); clear hs5 hf5))
              go_wp2_with (first
                | (go_at_call 51; refine (HEN.out _ HBL5.out).mono ?_; rintro e w6 ⟨rfl, hb6⟩; have HS6 := hid_mk (HS5.out.calm hb6); clear hb6)
                | (go_at_call 38; refine (fail_any HS6.out 9 (by decide) p).mono ?_; rintro e w7 ⟨rfl, hs7⟩; have HBL7 := hid_mk (HG.out.below _ _ _ _ _ hs7); have HS7 := hid_mk hs7; clear hs7))
              go_end0
              exact ⟨rfl, _, none, s2.1, by rw [HF3.out _ HTA.out, if_pos ⟨H0.out, HB.out⟩]; exact HS7.out, HBL7.out, HKP.out _ _ _ _ _ HS7.out⟩
end Go.Proofs.YtbjianmjdadehaaGreatDoor
namespace Go.Proofs.YtbjianmjdadehaaGreatDoor
open Go.RowKit

theorem made_zero (n : Nat) : madeCells #[Value.int .i64 0] n = (List.replicate n (Value.int .i64 0)).toArray := by
  apply Array.ext_getElem?
  intro i
  simp [madeCells]
  by_cases h : i < n
  · simp [h, Nat.mod_one]
  · simp [h]
theorem make_run (n : Nat) (hn : n ≤ 1048576) (w : World) : (Instr.makeSlice 34 (.int .i64 (n : Int)) (.int .i64 (n : Int))).run Tryz.prog w = .ok (.slice (some ⟨w.heap.size, 0, none⟩) n n) (w.alloc (.cells (List.replicate n (Value.int .i64 0)).toArray 3)) := by
  obtain ⟨i0, hi0, hz0, hz1, hz2⟩ := info_parts infoI
  have := run_make (P := Tryz.prog) w 34 3 i0 (.int .i64 0) Tryz.underlying34 hi0 hz0 .i64 .i64 n n (by omega) (Int.le_refl _) (by rw [hz2]; omega) (by omega)
  rw [this, hz1]
  simp only [Int.toNat_natCast, Nat.mul_one]
  rw [show (Value.int .i64 0).cells = #[Value.int .i64 0] from rfl, made_zero]

theorem Kept.drew {S : Nat → Prop} {w w' : World} (h : Kept S w w') : Kept S w w'.drew := ⟨h.os, h.tape, h.output, h.size, h.block⟩
theorem funM_len {F T : Nd} (hF : funcB T = true) {X X' : List Int} (h : funM F T X = .ok X') : X'.length = X.length + T.size := by
  obtain ⟨hk, hl, hpar, hB4, hBok, hn0⟩ := fo_of hF
  unfold funM at h
  obtain ⟨s1, h1, h2⟩ := bind_inv h
  obtain ⟨s2, h3, h4⟩ := bind_inv h2
  obtain ⟨p1, p2, _, _⟩ := parC_at (X := X) (m := T.len - 1) (fun i hi => (hpar i hi).1) (Nat.le_refl _) s1 h1
  obtain ⟨_, _, q3, _⟩ := (mn_len F (T.kids (T.len - 1))).sts hBok hB4 _ s1 s2 p2 h3
  split at h4
  · cases h4
  · injection h4 with h4; subst h4
    rw [q3, p1, ← kidAt_succ, show T.len - 1 + 1 = T.len by omega, kidAt_len]
def fnC (F : Nd) (n : Nat) : CR (List Int) := CR.bind (forN (twiceM F) F.len ()) fun _ => forN (fun i => funM F (F.kids i)) n [0]
theorem fnC_succ (F : Nd) (n : Nat) : fnC F (n + 1) = CR.bind (fnC F n) (funM F (F.kids n)) := by
  unfold fnC
  cases forN (twiceM F) F.len () <;> rfl
theorem fnC_err {F : Nd} {j : Nat} {e : Int × Nat} (h : fnC F j = .error e) : ∀ {n : Nat}, j ≤ n → fnC F n = .error e := by
  intro n hn
  induction hn with
  | refl => exact h
  | step _ ih => rw [fnC_succ, ih]; rfl
theorem fnC_at {F : Nd} (hF : treeB F = true) : ∀ {n : Nat}, n ≤ F.len → ∀ X, fnC F n = .ok X → X.length = kidAt F 0 n := by
  intro n
  induction n with
  | zero =>
    intro _ X e
    unfold fnC at e
    obtain ⟨_, _, h2⟩ := bind_inv e
    injection h2 with h2; subst h2; rfl
  | succ n ih =>
    intro hn X e
    rw [fnC_succ] at e
    obtain ⟨Y, h1, h2⟩ := bind_inv e
    rw [funM_len (tree_fun hF (by omega)) h2, ih (by omega) Y h1, kidAt_succ]
theorem fnC_0 {F : Nd} : (CR.bind (fnC F 0) fun X => .ok (([] : Sc), X)) = CR.bind (forN (twiceM F) F.len ()) fun _ => .ok ([], [0]) := by
  unfold fnC
  cases forN (twiceM F) F.len () <;> rfl

set_option maxHeartbeats 8000000 in
set_option maxRecDepth 100000 in
theorem all_any (F : Nd) (w : World) (v : Value) (hi : Nat) (hF : treeB F = true) (hf : F.Fine) (hhi : hi ≤ w.heap.size) (hr : Row 0 hi w F v) (hcost : F.cost ≤ 1048576) :
    Calls Tryz.prog 24 #[F.val v] w fun e w' => ∃ (K : SK) (w2 : World) (own2 : Option Nat) (E : Sc) (r : Int), e = .returned (.pointer (some ⟨K.cb, 0, none⟩)) ∧ K.F = F ∧ K.N = F.size ∧ w.heap.size ≤ K.lo ∧ SS K w2 own2 (CR.bind (checkM F) fun X => .ok (E, X)) r 0 0 w' ∧ Below w.heap.size w w' := by
  have hz := F.size_cost
  have hn := F.fine_len hf
  have hsz1 : F.size ≤ 600 := by unfold treeB at hF; simp only [Bool.and_eq_true, decide_eq_true_eq] at hF; exact hF.1.1.1.1
  obtain ⟨a, cap, hv, hcap, hq⟩ := row_eq.1 hr
  subst hv
  have HMK := hid_mk (make_run F.size (by omega))
  have hmk := make_run F.size (by omega)
  have HB0 := hid_mk (fun o => (Below.refl w.heap.size w).alloc (Nat.le_refl _) o)
  have HSZ := hid_mk (fun W (hb : Below w.heap.size w W) => l02size F W _ hi hf (Nat.le_trans hhi hb.size) (row_below hb hhi hr) hcost)
  have HRW := hid_mk (fun W (hb : Below w.heap.size w W) => row_below hb hhi hr)
  unfold Nd.val at *
  have HR0 := hid_mk hr
  clear hr hq
  go_enter Tryz.func24, Tryz.ntmps24
  go_wp2
  go_region_held3 (fun W => W.cell? ⟨w.heap.size, 0, none⟩ = some (.int .i64 F.kind) ∧ W.cell? ⟨w.heap.size, 1, none⟩ = some (.int .i64 F.num) ∧ W.cell? ⟨w.heap.size, 2, none⟩ = some (.string F.name) ∧ W.cell? ⟨w.heap.size, 3, none⟩ = some (.slice a F.len cap)) (go_keep) (first
    | (go_at_call 35; refine (HSZ.out _ (HB0.out _).drew).mono ?_; rintro e w1 ⟨rfl, hb1⟩; have q0 : w1.cell? ⟨w.heap.size, 0, none⟩ = some (.int .i64 F.kind) := (hb1.cell (p := ⟨w.heap.size, 0, none⟩) (by simp)).trans (by simp); have q1 : w1.cell? ⟨w.heap.size, 1, none⟩ = some (.int .i64 F.num) := (hb1.cell (p := ⟨w.heap.size, 1, none⟩) (by simp)).trans (by simp); have q2 : w1.cell? ⟨w.heap.size, 2, none⟩ = some (.string F.name) := (hb1.cell (p := ⟨w.heap.size, 2, none⟩) (by simp)).trans (by simp); have q3 : w1.cell? ⟨w.heap.size, 3, none⟩ = some (.slice a F.len cap) := (hb1.cell (p := ⟨w.heap.size, 3, none⟩) (by simp)).trans (by simp); have HBS := hid_mk hb1; clear hb1))
  have HB1 : Hid (Below w.heap.size w w1) := (HB0.out _).drew.trans (HBS.out.mono (by simp))
  have hw1 : w.heap.size + 1 ≤ w1.heap.size := by have := HBS.out.size; simpa using this
  obtain ⟨K, hK⟩ : ∃ K : SK, K = ⟨w1.heap.size + 1, w1.heap.size, w1.heap.size, w1.heap.size + 2, F.size, F, .slice a F.len cap⟩ := ⟨_, rfl⟩
  obtain ⟨kcb, ktb, klo, kup, kN, kF, kfv⟩ : K.cb = w1.heap.size + 1 ∧ K.tb = w1.heap.size ∧ K.lo = w1.heap.size ∧ K.up = w1.heap.size + 2 ∧ K.N = F.size ∧ K.F = F ∧ K.fv = .slice a F.len cap := by subst hK; exact ⟨rfl, rfl, rfl, rfl, rfl, rfl, rfl⟩
  have hKok : K.Ok := ⟨by omega, by omega, by omega, by omega, by omega, by omega, .inl (by omega)⟩
  have HS0 : Hid (SRaw K ((w1.alloc (.cells (Array.replicate F.size (.int .i64 0)) 3)).alloc (.cells #[.int .i64 F.kind, .int .i64 F.num, .string F.name, .slice a F.len cap, .slice (some ⟨w1.heap.size, 0, none⟩) F.size F.size, .int .i64 0, .int .i64 0, .slice none 0 0, .int .i64 0, .int .i64 0, .int .i64 0, .int .i64 0] 51)) (.slice none 0 0) 0 0 0 0 0 0 (List.replicate F.size 0) []) := by
    refine ⟨?_, ?_, by rw [List.length_replicate, kN], World.ownsRow_nil _ _ _ _⟩
    · rw [kcb]
      have := heap_alloc_new (w1.alloc (.cells (Array.replicate F.size (.int .i64 0)) 3)) (.cells #[.int .i64 F.kind, .int .i64 F.num, .string F.name, .slice a F.len cap, .slice (some ⟨w1.heap.size, 0, none⟩) F.size F.size, .int .i64 0, .int .i64 0, .slice none 0 0, .int .i64 0, .int .i64 0, .int .i64 0, .int .i64 0] 51)
      simp only [World.size_alloc] at this
      rw [this]
      unfold SK.cells
      rw [kF, kfv, ktb, kN]
    · rw [ktb, Below.heap_alloc _ _ _ (by simp), heap_alloc_new]
      simp
  have hszW : ((w1.alloc (.cells (Array.replicate F.size (.int .i64 0)) 3)).alloc (.cells #[.int .i64 F.kind, .int .i64 F.num, .string F.name, .slice a F.len cap, .slice (some ⟨w1.heap.size, 0, none⟩) F.size F.size, .int .i64 0, .int .i64 0, .slice none 0 0, .int .i64 0, .int .i64 0, .int .i64 0, .int .i64 0] 51)).heap.size = w1.heap.size + 2 := by simp
  have hlo1 : K.lo ≤ K.cb := by omega
  have hlo2 : K.lo ≤ K.tb := by omega
  have hup1 : K.cb + 1 ≤ ((w1.alloc (.cells (Array.replicate F.size (.int .i64 0)) 3)).alloc (.cells #[.int .i64 F.kind, .int .i64 F.num, .string F.name, .slice a F.len cap, .slice (some ⟨w1.heap.size, 0, none⟩) F.size F.size, .int .i64 0, .int .i64 0, .slice none 0 0, .int .i64 0, .int .i64 0, .int .i64 0, .int .i64 0] 51)).heap.size := by omega
  have hup2 : K.tb + 1 ≤ ((w1.alloc (.cells (Array.replicate F.size (.int .i64 0)) 3)).alloc (.cells #[.int .i64 F.kind, .int .i64 F.num, .string F.name, .slice a F.len cap, .slice (some ⟨w1.heap.size, 0, none⟩) F.size F.size, .int .i64 0, .int .i64 0, .slice none 0 0, .int .i64 0, .int .i64 0, .int .i64 0, .int .i64 0] 51)).heap.size := by omega
  have HRL : Hid (Row 0 K.lo w1 F (.slice a F.len cap)) := row_wide (row_below HB1.out hhi HR0.out) (Nat.le_refl _) (by omega)
  have HBA : Hid (Below K.lo w1 ((w1.alloc (.cells (Array.replicate F.size (.int .i64 0)) 3)).alloc (.cells #[.int .i64 F.kind, .int .i64 F.num, .string F.name, .slice a F.len cap, .slice (some ⟨w1.heap.size, 0, none⟩) F.size F.size, .int .i64 0, .int .i64 0, .slice none 0 0, .int .i64 0, .int .i64 0, .int .i64 0, .int .i64 0] 51))) := ((Below.refl _ _).alloc (by omega) _).alloc (by simp; omega) _
  have HQ : Hid (∀ W, Below K.lo w1 W → W.cell? ⟨w.heap.size, 0, none⟩ = some (.int .i64 F.kind) ∧ W.cell? ⟨w.heap.size, 1, none⟩ = some (.int .i64 F.num) ∧ W.cell? ⟨w.heap.size, 2, none⟩ = some (.string F.name) ∧ W.cell? ⟨w.heap.size, 3, none⟩ = some (.slice a F.len cap)) := by
    intro W hb
    have hc : ∀ o, W.cell? ⟨w.heap.size, o, none⟩ = w1.cell? ⟨w.heap.size, o, none⟩ := fun o => hb.cell (p := ⟨w.heap.size, o, none⟩) (by show w.heap.size < K.lo; omega)
    exact ⟨(hc _).trans q0, (hc _).trans q1, (hc _).trans q2, (hc _).trans q3⟩
  clear q0 q1 q2 q3
  have hkcb : w1.heap.size + 1 = K.cb := kcb.symm
  simp only [hkcb] at *
  generalize hW0 : ((w1.alloc (.cells (Array.replicate F.size (.int .i64 0)) 3)).alloc (.cells #[.int .i64 F.kind, .int .i64 F.num, .string F.name, .slice a F.len cap, .slice (some ⟨w1.heap.size, 0, none⟩) F.size F.size, .int .i64 0, .int .i64 0, .slice none 0 0, .int .i64 0, .int .i64 0, .int .i64 0, .int .i64 0] 51)) = W0 at *
  clear hW0
  have HATS := hid_mk (ats_any F W0 _ K.lo 0 hf (by rw [klo]; exact HBA.out.size) (row_below HBA.out (Nat.le_refl _) HRL.out) hcost (by omega))
  unfold Nd.val at HATS
  rw [show ((0 : Nat) : Int) = 0 from rfl] at HATS
  obtain ⟨bx0, bx1, bx2, bx3⟩ := HQ.out W0 HBA.out
  have HKC := hid_mk (fun (h0 : F.len ≠ 0) => ck_kid HRL.out h0)
  have HINI : Hid (∀ w2, Below W0.heap.size W0 w2 → SS K w2 none (.ok ([], [0])) 0 0 0 w2) := fun w2 hb => SS.take (s := ([], [])) ⟨hKok, ⟨.slice none 0 0, 0, 0, 0, List.replicate F.size 0, [], HS0.out.calm hb, ⟨rfl, rfl, rfl, by rw [kN]; rfl, Nat.zero_le _, rfl, Nat.zero_le _, Nat.zero_le _⟩, .inl rfl⟩, Kept.refl _ _⟩ (by rw [kN]; have := F.size_eq; show 0 + 1 ≤ _; omega)
  have HBL : Hid (∀ w2, Below W0.heap.size W0 w2 → ∀ W, Kept (K.S none) w2 W → Below K.lo w1 W) := fun w2 hb W hk => HBA.out.trans ((hb.mono (by omega)).trans (hk.below (by have := hb.size; omega) (fun k h => by rcases h with h | h | h; omega; omega; cases h)))
  have HATC : Hid (∀ w2 u, Below W0.heap.size W0 w2 → Ats w2 W0.heap.size u F.len (fun i => (kidAt F 0 i : Nat)) → F.len ≠ 0 → ∃ g off cap, u = .slice (some ⟨g, off, none⟩) F.len cap ∧ (F.len ≤ cap ∧ cap ≤ 9223372036854775807) ∧ ∀ W, Kept (K.S none) w2 W → ∀ i, i < F.len → W.cell? ⟨g, off + i, none⟩ = some (.int .i64 (kidAt F 0 i : Nat))) := by
    intro w2 u hb ha h0
    obtain ⟨a1, c1, e1, e2, e3, e4⟩ := ha
    rcases e4 with e | ⟨g, off, rfl, p1, p2, p3⟩
    · exact absurd e h0
    refine ⟨g, off, c1, e1, ⟨e2, e3⟩, fun W hk i hi' => ?_⟩
    rw [World.cell?_of_block (a := ⟨g, off + i, none⟩) (hk.block g p2 (by rintro (h | h | h); omega; omega; cases h))]
    exact p3 i hi'
  have hmix : Tryz.prog.follows Departure.mixedOrders = true := by kernel_rfl
  clear hKok hK hmk HMK HSZ HRW HB0 HBS
  go_wp2_with (go_at_call 36; refine HATS.out.mono ?_; rintro e w2 ⟨u, rfl, hats, hb2⟩; have hs2 := HINI.out w2 hb2; have hatc := HATC.out w2 u hb2 hats; obtain ⟨y0, y1, y2, y3⟩ := HQ.out w2 (HBL.out w2 hb2 w2 (Kept.refl _ _)); have k5 := hs2.code0; have hus : ∃ a' ca, u = .slice a' F.len ca ∧ F.len ≤ ca ∧ ca ≤ 9223372036854775807 := (by obtain ⟨z1, z2, z3, z4, z5, _⟩ := hats; exact ⟨z1, z2, z3, z4, z5⟩); have HS2 := hid_mk hs2; have HAT := hid_mk hatc; have HBL2 := hid_mk (HBL.out w2 hb2); have HW2 := hid_mk hb2; clear hs2 hatc hats hb2)
  obtain ⟨a', ca, rfl, hca1, hca2⟩ := hus
  go_loopw [5] (fun i wr => ∃ n : Nat, n ≤ F.len ∧ i = .int .i64 n ∧ SS K w2 none (CR.bind (forN (twiceM F) n ()) fun _ => .ok ([], [0])) 0 0 0 wr) (fun i _ => F.len - (intOf i).toNat)
  case atStart => exact ⟨0, Nat.zero_le _, rfl, HS2.out⟩
  case round =>
    obtain ⟨n, hn', rfl, hss⟩ := hrel
    have hbw := HBL2.out _ hss.kept
    obtain ⟨x0, x1, x2, x3⟩ := HQ.out wr hbw
    by_cases hlt : n < F.len
    · have hni : (n : Int) < (F.len : Int) := by omega
      cases hq : forN (twiceM F) n () with
      | error e0 =>
        rw [hq] at hss
        obtain ⟨code, k5', hz'⟩ := hss.code1
        have HSE : Hid (SS K w2 none (CR.bind (forN (twiceM F) F.len ()) fun _ => .ok ([], [0])) 0 0 0 wr) := by unfold Hid; rw [forN_err hq hn']; exact hss
        clear hss hq
        go_wp2
        have HKEP := hid_mk HSE.out.kept
        clear x0 x1 x2 x3 hbw
        go_loopw [6] (fun i wr => ∃ n : Nat, n ≤ F.len ∧ i = .int .i64 n ∧ ∃ wz ownz E r, SS K wz ownz (CR.bind (fnC F n) fun X => .ok (E, X)) r 0 0 wr ∧ Kept (K.S none) w2 wr) (fun i _ => F.len - (intOf i).toNat)
        case atStart => exact ⟨0, Nat.zero_le _, rfl, _, _, [], 0, by rw [fnC_0]; exact HSE.out, HKEP.out⟩
        case round =>
          obtain ⟨n2, hn2, rfl, wz, ownz, E, r, hss, hkp⟩ := hrel
          have hbw := HBL2.out _ hkp
          obtain ⟨x0, x1, x2, x3⟩ := HQ.out _ hbw
          have HBW := hid_mk (HB1.out.trans (hbw.mono (by omega)))
          by_cases hlt2 : n2 < F.len
          · have hni2 : (n2 : Int) < (F.len : Int) := by omega
            cases hq : fnC F n2 with
            | error e0 =>
              rw [hq] at hss
              obtain ⟨code2, k5'', hz''⟩ := hss.code1
              have HFE : Hid (checkM F = .error e0) := fnC_err hq hn2
              have HSS := hid_mk hss
              clear hss hq
              go_wp2
              go_ret
              exact ⟨K, wz, ownz, E, r, rfl, kF, kN, by omega, by rw [HFE.out]; exact HSS.out, HBW.out⟩
            | ok X =>
              rw [hq] at hss
              have k5'' := hss.code0
              obtain ⟨g2, off2, cap2, hv2, hgl2, hcap2, hkid2⟩ := HKC.out (by omega)
              injection hv2 with ev1 ev2 ev3
              subst ev1
              subst ev3
              obtain ⟨ga2, oa2, ca2, hu2, hca2', hav2⟩ := HAT.out (by omega)
              injection hu2 with eu1 eu2 eu3
              subst eu1
              subst eu3
              obtain ⟨ud, hcn, hrn⟩ := hkid2 n2 hlt2
              obtain ⟨c0, c1, c2, c3⟩ := hcn _ hbw
              have an := hav2 _ hkp n2 hlt2
              obtain ⟨ownr, hsr, _, _, _⟩ := hss.drew.restart
              have hXl := fnC_at hF hn2 X hq
              have HFU := hid_mk (fun_of (K := K) (tree_fun hF hlt2) ownr E X r _ ud hsr ⟨by rw [kF]; exact hf, by rw [kF, kfv]; exact row_below hbw.drew (Nat.le_refl _) HRL.out, by rw [kF]; exact hF⟩ ⟨Nd.fine_kid hf hlt2, row_below hbw.drew (Nat.le_refl _) hrn, Nat.le_trans (F.cost_kid hlt2) hcost⟩ (by rw [hXl, kN]; have := kidAt_le F 0 hlt2; omega))
              unfold Nd.val at HFU
              rw [hXl, kF] at HFU
              have HNX := hid_mk (fnC_succ F n2)
              rw [hq] at HNX
              have HKK := hid_mk hkp
              clear hss hq hkp hsr hcn hrn hkid2 hav2 hbw
              go_wp2
              go_still_tail 10, hmix
              go_wp2_with (go_at_call 39; refine HFU.out.mono ?_; rintro e w5 ⟨rfl, w6, own6, E6, hs6, hb6, hk6⟩; have HS6 := hid_mk hs6; have HK6 := hid_mk hk6; clear hs6 hb6 hk6)
              refine ⟨⟨n2 + 1, by omega, by go_num, w6, own6, E6, (F.kids n2).num, ?_, ?_⟩, by simp [intOf]; omega⟩
              · rw [HNX.out]
                exact HS6.out
              · exact HKK.out.drew.trans HK6.out (fun _ _ h => h)
          · obtain rfl : n2 = F.len := by omega
            have HSS := hid_mk hss
            clear hss
            go_wp2
            go_ret
            exact ⟨K, wz, ownz, E, r, rfl, kF, kN, by omega, HSS.out, HBW.out⟩
      | ok un =>
        rw [hq] at hss
        have k5' := hss.code0
        obtain ⟨g, off, cap', hv', hgl, hcap', hkid⟩ := HKC.out (by omega)
        injection hv' with ev1 ev2 ev3
        subst ev1
        subst ev3
        obtain ⟨ga, oa, ca', hu', hca', hav⟩ := HAT.out (by omega)
        injection hu' with eu1 eu2 eu3
        subst eu1
        subst eu3
        obtain ⟨ud, hcn, hrn⟩ := hkid n hlt
        obtain ⟨c0, c1, c2, c3⟩ := hcn _ hbw
        have an := hav _ hss.kept n hlt
        have hwr : K.lo ≤ wr.heap.size := by have := hss.lt; omega
        have HFI := hid_mk (find_any F wr.drew _ K.lo (F.kids n).name hf hwr (row_below hbw.drew (Nat.le_refl _) HRL.out))
        unfold Nd.val at HFI
        have HNX : Hid (forN (twiceM F) (n + 1) () = twiceM F n ()) := by unfold Hid; simp only [forN, hq]; rfl
        have HSS := hid_mk hss
        have HCN := hid_mk hcn
        have HAVV := hid_mk hav
        by_cases hfd : findF F (F.kids n).name = some n
        · have hfi : findI F (F.kids n).name = n := by unfold findI; rw [hfd]
          have HTW : Hid (twiceM F n () = .ok ()) := by unfold Hid twiceM; rw [if_pos hfd]
          rw [hfi] at HFI
          clear hss hq hcn hrn hkid hav hfi hfd
          go_wp2
          go_region_held3 (fun W => W.cell? ⟨w.heap.size, 0, none⟩ = some (.int .i64 F.kind) ∧ W.cell? ⟨w.heap.size, 1, none⟩ = some (.int .i64 F.num) ∧ W.cell? ⟨w.heap.size, 2, none⟩ = some (.string F.name) ∧ W.cell? ⟨w.heap.size, 3, none⟩ = some (.slice (some ⟨g, off, none⟩) F.len cap) ∧ W.cell? ⟨g, off + n * 4 + 2, none⟩ = some (.string (F.kids n).name)) (go_keep) (first
            | (go_at_call 37; refine HFI.out.mono ?_; rintro e w5 ⟨rfl, hb5⟩; have hs5 := HSS.out.drew.calm hb5; obtain ⟨x0, x1, x2, x3⟩ := HQ.out w5 (HBL2.out _ hs5.kept); obtain ⟨c0, c1, c2, c3⟩ := HCN.out _ (HBL2.out _ hs5.kept); have HS5 := hid_mk hs5; clear hb5 hs5))
          go_wp2
          refine ⟨⟨n + 1, by omega, by go_num, ?_⟩, by simp [intOf]; omega⟩
          rw [HNX.out, HTW.out]
          exact HS5.out
        · have hfi : ((findI F (F.kids n).name) == (n : Int)) = false := by
            refine beq_eq_false_iff_ne.2 fun e => hfd ?_
            unfold findI at e
            cases hx : findF F (F.kids n).name with
            | none => rw [hx] at e; have e' : (-1 : Int) = n := e; exact absurd e' (by omega)
            | some j => rw [hx] at e; have e' : (j : Int) = n := e; have e2 : j = n := by omega
                        rw [e2]
          have HTW : Hid (twiceM F n () = .error (6, kidAt F 0 n)) := by unfold Hid twiceM; rw [if_neg hfd]; simp [kidAt]
          generalize findI F (F.kids n).name = fi at *
          clear hss hq hcn hrn hkid hav hfd
          go_wp2
          go_region_held3 (fun W => W.cell? ⟨w.heap.size, 0, none⟩ = some (.int .i64 F.kind) ∧ W.cell? ⟨w.heap.size, 1, none⟩ = some (.int .i64 F.num) ∧ W.cell? ⟨w.heap.size, 2, none⟩ = some (.string F.name) ∧ W.cell? ⟨w.heap.size, 3, none⟩ = some (.slice (some ⟨g, off, none⟩) F.len cap) ∧ W.cell? ⟨g, off + n * 4 + 2, none⟩ = some (.string (F.kids n).name)) (go_keep) (first
            | (go_at_call 37; refine HFI.out.mono ?_; rintro e w5 ⟨rfl, hb5⟩; have hs5 := HSS.out.drew.calm hb5; obtain ⟨x0, x1, x2, x3⟩ := HQ.out w5 (HBL2.out _ hs5.kept); obtain ⟨c0, c1, c2, c3⟩ := HCN.out _ (HBL2.out _ hs5.kept); have an := HAVV.out _ hs5.kept n hlt; have HS5 := hid_mk hs5; clear hb5 hs5))
          go_wp2_with (first
            | (go_at_call 38; refine (fail_any HS5.out 6 (by decide) (kidAt F 0 n)).mono ?_; rintro e w6 ⟨rfl, hs6⟩; have HS6 := hid_mk hs6; clear hs6))
          refine ⟨⟨n + 1, by omega, by go_num, ?_⟩, by simp [intOf]; omega⟩
          rw [HNX.out, HTW.out]
          exact HS6.out
    · obtain rfl : n = F.len := by omega
      have HSE := hid_mk hss
      clear hss
      go_wp2
      have HKEP := hid_mk HSE.out.kept
      clear x0 x1 x2 x3 hbw
      go_loopw [6] (fun i wr => ∃ n : Nat, n ≤ F.len ∧ i = .int .i64 n ∧ ∃ wz ownz E r, SS K wz ownz (CR.bind (fnC F n) fun X => .ok (E, X)) r 0 0 wr ∧ Kept (K.S none) w2 wr) (fun i _ => F.len - (intOf i).toNat)
      case atStart => exact ⟨0, Nat.zero_le _, rfl, _, _, [], 0, by rw [fnC_0]; exact HSE.out, HKEP.out⟩
      case round =>
        obtain ⟨n2, hn2, rfl, wz, ownz, E, r, hss, hkp⟩ := hrel
        have hbw := HBL2.out _ hkp
        obtain ⟨x0, x1, x2, x3⟩ := HQ.out _ hbw
        have HBW := hid_mk (HB1.out.trans (hbw.mono (by omega)))
        by_cases hlt2 : n2 < F.len
        · have hni2 : (n2 : Int) < (F.len : Int) := by omega
          cases hq : fnC F n2 with
          | error e0 =>
            rw [hq] at hss
            obtain ⟨code2, k5'', hz''⟩ := hss.code1
            have HFE : Hid (checkM F = .error e0) := fnC_err hq hn2
            have HSS := hid_mk hss
            clear hss hq
            go_wp2
            go_ret
            exact ⟨K, wz, ownz, E, r, rfl, kF, kN, by omega, by rw [HFE.out]; exact HSS.out, HBW.out⟩
          | ok X =>
            rw [hq] at hss
            have k5'' := hss.code0
            obtain ⟨g2, off2, cap2, hv2, hgl2, hcap2, hkid2⟩ := HKC.out (by omega)
            injection hv2 with ev1 ev2 ev3
            subst ev1
            subst ev3
            obtain ⟨ga2, oa2, ca2, hu2, hca2', hav2⟩ := HAT.out (by omega)
            injection hu2 with eu1 eu2 eu3
            subst eu1
            subst eu3
            obtain ⟨ud, hcn, hrn⟩ := hkid2 n2 hlt2
            obtain ⟨c0, c1, c2, c3⟩ := hcn _ hbw
            have an := hav2 _ hkp n2 hlt2
            obtain ⟨ownr, hsr, _, _, _⟩ := hss.drew.restart
            have hXl := fnC_at hF hn2 X hq
            have HFU := hid_mk (fun_of (K := K) (tree_fun hF hlt2) ownr E X r _ ud hsr ⟨by rw [kF]; exact hf, by rw [kF, kfv]; exact row_below hbw.drew (Nat.le_refl _) HRL.out, by rw [kF]; exact hF⟩ ⟨Nd.fine_kid hf hlt2, row_below hbw.drew (Nat.le_refl _) hrn, Nat.le_trans (F.cost_kid hlt2) hcost⟩ (by rw [hXl, kN]; have := kidAt_le F 0 hlt2; omega))
            unfold Nd.val at HFU
            rw [hXl, kF] at HFU
            have HNX := hid_mk (fnC_succ F n2)
            rw [hq] at HNX
            have HKK := hid_mk hkp
            clear hss hq hkp hsr hcn hrn hkid2 hav2 hbw
            go_wp2
            go_still_tail 10, hmix
            go_wp2_with (go_at_call 39; refine HFU.out.mono ?_; rintro e w5 ⟨rfl, w6, own6, E6, hs6, hb6, hk6⟩; have HS6 := hid_mk hs6; have HK6 := hid_mk hk6; clear hs6 hb6 hk6)
            refine ⟨⟨n2 + 1, by omega, by go_num, w6, own6, E6, (F.kids n2).num, ?_, ?_⟩, by simp [intOf]; omega⟩
            · rw [HNX.out]
              exact HS6.out
            · exact HKK.out.drew.trans HK6.out (fun _ _ h => h)
        · obtain rfl : n2 = F.len := by omega
          have HSS := hid_mk hss
          clear hss
          go_wp2
          go_ret
          exact ⟨K, wz, ownz, E, r, rfl, kF, kN, by omega, HSS.out, HBW.out⟩
end Go.Proofs.YtbjianmjdadehaaGreatDoor
