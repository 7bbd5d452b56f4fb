/- The specification's checker: the cases of a select. -/
import Derived.Test.YtbjianmjdadehaaGreatDoorKdH
import Derived.Test.YtbjianmjdadehaaGreatDoorKdK
import Derived.Deep.LoopGhost
set_option linter.unusedVariables false
namespace Go.Proofs.YtbjianmjdadehaaGreatDoor
open Go.RowKit

def nmL (T : Nd) : List (ByteArray × Int) := if emptyB T.name then [] else [(T.name, 1)]
theorem empty_is {s : ByteArray} (h : emptyB s = true) : s = ⟨#[]⟩ := by
  have h1 : s.toList = [] := by simpa [emptyB] using h
  rw [ByteArray.toList_eq] at h1
  have h2 : s.data = #[] := by simpa using h1
  cases s; simp_all
theorem blk_gen {T : Nd} (h4 : T.kind = 4) (ih : ∀ i, i < T.len → StS (T.kids i)) (K : SK) (w0 : World) (own0 : Option Nat) (s : CS) (cx : Cx) (w : World) (v : Value) (hS : SS K w0 own0 (.ok s) cx.ret cx.loops cx.outs w) (hE : SEnv K w) (hN : SNd K w T v) (hfit : s.2.length + T.size ≤ K.N) (hok : T.sOk = true) (hl : cx.loops + T.size ≤ 1099511627776) (ho : cx.outs + T.size ≤ 1099511627776) (C : Nd) (na : Nat) :
    Calls Tryz.prog 87 #[.pointer (some ⟨K.cb, 0, none⟩), T.val v, .int .i64 s.2.length, .string C.name, .int .i64 na] w fun e w' => e = .returned (.tuple #[]) ∧ SS K w0 own0 (within (nmL C) ((mnT K.F T).sts cx) s) cx.ret cx.loops cx.outs w' := by
  unfold nmL
  cases he : emptyB C.name with
  | true => rw [empty_is he]; exact blk_of h4 ih K w0 own0 s cx w v hS hE hN hfit hok hl ho na
  | false => exact blk_nm h4 ih K w0 own0 s cx w v hS hE hN hfit hok hl ho C.name na he

theorem cs_0f {F C : Nd} {cx : Cx} {s : CS} (hk : C.kind = 16) (hn : C.num = 0) : (mnT F C).cs true cx s = .error (6, s.2.length) := by
  rw [csM_at F (by omega)]; unfold csM; rw [if_pos ⟨hn, rfl⟩]
theorem cs_0n {F C : Nd} {cx : Cx} {s : CS} (hk : C.kind = 16) (hn : C.num = 0) (hl : C.len = 1) : (mnT F C).cs false cx s = within (nmL C) ((mnT F (C.kids 0)).sts cx) (take0 s) := by
  rw [csM_at F (by omega)]; unfold csM; rw [if_neg (by simp), if_neg (by omega), CR.bind_ok, if_neg (by omega), CR.bind_ok, hl]; rfl
theorem cs_1 {F C : Nd} {cx : Cx} {s : CS} {f : Bool} (hk : C.kind = 16) (hn : C.num = 1) (hl : C.len = 2) : (mnT F C).cs f cx s = CR.bind (wantM (exT F (C.kids 0)) 3 (take0 s)) (within (nmL C) ((mnT F (C.kids 1)).sts cx)) := by
  rw [csM_at F (by omega)]; unfold csM; rw [if_neg (by omega), if_pos (by omega)]
  cases wantM (exT F (C.kids 0)) 3 (take0 s) with
  | error e => rfl
  | ok s1 => simp only [CR.bind_ok]; rw [if_neg (by omega), CR.bind_ok, hl]; rfl
theorem cs_2 {F C : Nd} {cx : Cx} {s : CS} {f : Bool} (hk : C.kind = 16) (hn : C.num = 2) (hl : C.len = 3) : (mnT F C).cs f cx s = CR.bind (wantM (exT F (C.kids 0)) 3 (take0 s)) (fun s1 => CR.bind (wantM (exT F (C.kids 1)) 1 s1) (within (nmL C) ((mnT F (C.kids 2)).sts cx))) := by
  rw [csM_at F (by omega)]; unfold csM; rw [if_neg (by omega), if_pos (by omega)]
  cases wantM (exT F (C.kids 0)) 3 (take0 s) with
  | error e => rfl
  | ok s1 => simp only [CR.bind_ok]; rw [if_pos hn, hl]; rfl

def fnd (T : Nd) (j : Nat) : Bool := anyTo (fun i => decide ((T.kids i).num = 0)) j
def csC (F T : Nd) (cx : Cx) (s : CS) (j : Nat) : CR CS := forN (fun i => (mnT F (T.kids i)).cs (fnd T i) cx) j s
theorem csC_succ (F T : Nd) (cx : Cx) (s : CS) (j : Nat) : csC F T cx s (j + 1) = CR.bind (csC F T cx s j) ((mnT F (T.kids j)).cs (fnd T j) cx) := rfl
theorem csC_err {F T : Nd} {cx : Cx} {s : CS} {j : Nat} {e : Int × Nat} (h : csC F T cx s j = .error e) : ∀ {n : Nat}, j ≤ n → csC F T cx s n = .error e := by
  intro n hn
  induction hn with
  | refl => exact h
  | step _ ih => rw [csC_succ, ih]; rfl
theorem csC_at {F T : Nd} {cx : Cx} {s : CS} (hok : ∀ i, i < T.len → (T.kids i).cOk = true) (hs : s.1 ≠ []) : ∀ {j : Nat}, j ≤ T.len → ∀ s', csC F T cx (take0 s) j = .ok s' → s'.2.length = kidAt T s.2.length j ∧ s'.1 ≠ [] := by
  intro j hj s' e
  have := (StL.forN (g := fun i => (T.kids i).size) (fun i hi => (mn_len F (T.kids i)).cs (hok i hi) _ _) hj) (take0 s) s' hs e
  obtain ⟨r1, r2, r3, r4⟩ := this
  refine ⟨by rw [r3, take0_len]; unfold kidAt; rfl, fun h => ?_⟩
  rw [h] at r2
  exact hs (List.length_eq_zero_iff.1 r2.symm)
theorem blk_at {T : Nd} (h4 : T.kind = 4) (ih : ∀ i, i < T.len → StS (T.kids i)) (K : SK) (w0 : World) (own0 : Option Nat) (s : CS) (cx : Cx) (w : World) (v : Value) (p : Nat) (hp : s.2.length = p) (hS : SS K w0 own0 (.ok s) cx.ret cx.loops cx.outs w) (hE : SEnv K w) (hN : SNd K w T v) (hfit : p + T.size ≤ K.N) (hok : T.sOk = true) (hl : cx.loops + T.size ≤ 1099511627776) (ho : cx.outs + T.size ≤ 1099511627776) (C : Nd) (na : Nat) :
    Calls Tryz.prog 87 #[.pointer (some ⟨K.cb, 0, none⟩), T.val v, .int .i64 p, .string C.name, .int .i64 na] w fun e w' => e = .returned (.tuple #[]) ∧ SS K w0 own0 (within (nmL C) ((mnT K.F T).sts cx) s) cx.ret cx.loops cx.outs w' := by
  subst hp
  exact blk_gen h4 ih K w0 own0 s cx w v hS hE hN hfit hok hl ho C na

set_option maxHeartbeats 8000000 in
set_option maxRecDepth 100000 in
theorem cases_of {T : Nd} {K : SK} {w w1 : World} {own1 : Option Nat} {b : Nat} {v u : Value} {s : CS} (hok : ∀ i, i < T.len → (T.kids i).cOk = true) (hrec : ∀ U : Nd, U.size < T.size → StS U) (hE : SEnv K w) (hN : SNd K w T v) (hg : SGo K w w1 own1 b T v u s.2.length) (cx : Cx) (W : World) (hS : SS K w1 own1 (.ok (take0 s)) cx.ret cx.loops cx.outs W)
    (hsne : s.1 ≠ []) (hfit : s.2.length + T.size ≤ K.N) (hl : cx.loops + T.size ≤ 1099511627776 + 1) (ho : cx.outs + T.size ≤ 1099511627776 + 1) :
    Calls Tryz.prog 92 #[.pointer (some ⟨K.cb, 0, none⟩), T.val v, u] W fun e w' => e = .returned (.tuple #[]) ∧ SS K w1 own1 (csC K.F T cx (take0 s) T.len) cx.ret cx.loops cx.outs w' := by
  have hn := T.fine_len hN.fine
  have hfew := hS.ok.few
  obtain ⟨a, cap, hv, hcap, hq⟩ := row_eq.1 hN.row
  subst hv
  obtain ⟨own2, hs3, hback2, hbox⟩ := hS.boxed (.cells #[.int .i64 T.kind, .int .i64 T.num, .string T.name, .slice a T.len cap] 30)
  have HS3 := hid_mk hs3
  have HB2 := hid_mk hback2
  have HBX := hid_mk hbox
  have HG := hid_mk hg
  have HEV := hid_mk hE
  have HND := hid_mk hN
  have HOK := hid_mk hok
  have HREC := hid_mk hrec
  have HCT := hid_mk (fun j (hj : j ≤ T.len) => csC_at (F := K.F) (cx := cx) hok hsne hj)
  have HKID := hid_mk (fun (h0 : T.len ≠ 0) => ck_kid hN.row h0)
  have HKA := hid_mk (fun i (h : i < T.len) => kidAt_le T s.2.length h)
  have HKS := hid_mk (fun i (h : i < T.len) => kid_size T h)
  have hmix : Tryz.prog.follows Departure.mixedOrders = true := by kernel_rfl
  clear hs3 hback2 hbox hg hE hN hok hrec hS hq
  unfold Nd.val
  generalize hp : s.2.length = p at *
  go_enter Tryz.func92, Tryz.ntmps92
  go_wp2
  go_loopw [6, 7] (fun fd i wr => ∃ j : Nat, j ≤ T.len ∧ i = .int .i64 j ∧ fd = .bool (fnd T j) ∧ SS K (W.alloc (.cells #[.int .i64 T.kind, .int .i64 T.num, .string T.name, .slice a T.len cap] 30)) own2 (csC K.F T cx (take0 s) j) cx.ret cx.loops cx.outs wr) (fun _ i _ => T.len - (intOf i).toNat)
  case atStart => exact ⟨0, Nat.zero_le _, rfl, rfl, HS3.out⟩
  case round =>
    obtain ⟨j, hj, rfl, rfl, hss⟩ := hrel
    have hbk := HB2.out _ _ _ _ _ hss
    have hfb := HBX.out _ _ _ _ _ hss
    have n3 : wr.cell? ⟨W.heap.size, 3, none⟩ = some (.slice a T.len cap) := by simp [World.cell?, hfb]
    clear hfb
    by_cases hlt : j < T.len
    · have hji : (j : Int) < (T.len : Int) := by omega
      obtain ⟨g, off, cap', hv', hgl, hcap', hkid⟩ := HKID.out (by omega)
      injection hv' with ev1 ev2 ev3
      subst ev1
      subst ev3
      obtain ⟨ga, oa, ca, hu', hca, hav⟩ := HG.out.ats (by omega)
      subst hu'
      obtain ⟨ud, hcn, hrn⟩ := hkid j hlt
      cases hq : csC K.F T cx (take0 s) j with
      | error e0 =>
        rw [hq] at hss
        obtain ⟨code, k5, hz⟩ := hss.code1
        have HSS := hid_mk hss
        have HQ := hid_mk hq
        clear hss hq hkid hcn hrn hav hbk
        go_wp2
        go_end0
        refine ⟨rfl, ?_⟩
        rw [csC_err HQ.out hj]
        exact HB2.out _ _ _ _ _ HSS.out
      | ok sj =>
        obtain ⟨hpj, hsj⟩ := HCT.out j hj sj hq
        rw [hq] at hss
        have k5 := hss.code0
        have hlo := HG.out.below _ _ _ _ _ hbk
        obtain ⟨c0, c1, c2, c3⟩ := hcn _ hlo
        have an := hav _ _ _ _ _ hbk j hlt
        have hgaw := World.block_lt_of_cell? wr ⟨ga, oa + j, none⟩ an
        dsimp only at hgaw
        have hka := HKA.out j hlt
        have hks := HKS.out j hlt
        have hNd := (HND.out.kid hlt hrn).later hlo.drew
        have hEd := HEV.out.later hlo.drew
        have hAV2 : ∀ X σ r l o, SS K (W.alloc (.cells #[.int .i64 T.kind, .int .i64 T.num, .string T.name, .slice (some ⟨g, off, none⟩) T.len cap] 30)) own2 σ r l o X → X.cell? ⟨ga, oa + j, none⟩ = some (.int .i64 (kidAt T p j : Nat)) := fun X σ r l o h => hav _ _ _ _ _ (HB2.out _ _ _ _ _ h) j hlt
        obtain ⟨hDk, hDn, hB4, hBok⟩ := co_of (HOK.out j hlt)
        have hD1 : (T.kids j).len ≠ 0 := by rcases hDn with h | h | h <;> omega
        obtain ⟨gd, od, cd, hvd, hgd, hcd, hkd⟩ := ck_kid hNd.row hD1
        subst hvd
        have hsz0 : 0 < (T.kids j).size := by rw [(T.kids j).size_eq]; omega
        have hsd := (hss.take (by omega)).drew
        have hcl := hss.ok.cl
        have hwl := hss.lt
        have HSD := hid_mk hsd
        have HATS : Hid (∀ o, Calls Tryz.prog 36 #[(T.kids j).val (.slice (some ⟨gd, od, none⟩) (T.kids j).len cd), .int .i64 (kidAt T p j : Nat)] ((wr.alloc o).drew) fun e w' => ∃ u, e = .returned u ∧ Ats w' (wr.alloc o).heap.size u (T.kids j).len (fun i => (kidAt (T.kids j) (kidAt T p j) i : Int)) ∧ Below (wr.alloc o).heap.size ((wr.alloc o).drew) w') := fun o => ats_any (T.kids j) ((wr.alloc o).drew) _ K.lo (kidAt T p j) hNd.fine (by show K.lo ≤ (wr.alloc o).heap.size; simp; omega) (row_below (hsd.box o) (Nat.le_refl _) hNd.row) hNd.cost (by omega)
        have HGO := hid_mk (fun (x1 : World) (u : Value) (t : TypeId) hb ha => sgo_of (w1 := x1) (T := T.kids j) (v := .slice (some ⟨gd, od, none⟩) (T.kids j).len cd) (p := kidAt T p j) (u := u) (t := t) hsd hb ha)
        have HQ := hid_mk hq
        have HSJ := hid_mk hsj
        have HPJ := hid_mk hpj
        have HNXT : Hid (csC K.F T cx (take0 s) (j + 1) = (mnT K.F (T.kids j)).cs (fnd T j) cx sj) := by unfold Hid; rw [csC_succ, hq]; rfl
        have HFN : Hid (fnd T (j + 1) = (fnd T j || decide ((T.kids j).num = 0))) := rfl
        have HAV := hid_mk hAV2
        have HFD := hid_mk hNd
        have HED := hid_mk hEd
        have hDf := Nd.fine_len hNd.fine
        clear hss hq hcn hrn hav hbk hlo hAV2 hkid
        unfold Nd.val at HATS
        generalize T.kids j = D at *
        generalize kidAt T p j = pj at *
        rcases hDn with ⟨hN0, hL⟩ | ⟨hN1, hL, he0⟩ | ⟨hN2, hL, he0, he1⟩
        · rw [hL] at hB4 hBok
          have HNUM := hid_mk hN0
          rw [hN0] at HATS HGO c1
          have hL1 : (D.len : Int) - 1 = 0 := by omega
          have hpos : 0 < D.len := by omega
          obtain ⟨ud0, hc0, hr0⟩ := hkd 0 (by omega)
          simp only [Nat.zero_mul, Nat.add_zero] at hc0
          have HC0 := hid_mk hc0
          have hkz := kid_size D (i := 0) (by omega)
          have hkf := kidAt_le D pj (i := 0) (by omega)
          have HBL := hid_mk (fun (x1 : World) (own3 : Option Nat) (b3 : Nat) (u3 : Value) (hg3 : SGo K wr.drew x1 own3 b3 D (.slice (some ⟨gd, od, none⟩) D.len cd) u3 pj) (X : World) (s1 : CS) (hp1 : s1.2.length = kidAt D pj 0) (hX : SS K x1 own3 (.ok s1) cx.ret cx.loops cx.outs X) => blk_at (T := D.kids 0) hB4 (fun i hi => HREC.out _ (by have := kid_size (D.kids 0) hi; omega)) K x1 own3 s1 cx X ud0 (kidAt D pj 0) hp1 hX (hg3.env HED.out hX) ((HFD.out.kid (by omega) hr0).later (hg3.below _ _ _ _ _ hX)) (by omega) hBok (by omega) (by omega) D pj)
          have HDK := hid_mk hDk
          have HLL := hid_mk hL
          clear hDk hL hkd hB4 hBok hc0 hr0
          cases hf : fnd T j with
          | true =>
            rw [hf] at HNXT
            clear hf
            go_wp2
            generalize hwx : wr.alloc (.cells #[.int .i64 D.kind, .int .i64 0, .string D.name, .slice (some ⟨gd, od, none⟩) D.len cd] 30) = wx
            have x0 : wx.cell? ⟨wr.heap.size, 0, none⟩ = some (.int .i64 D.kind) := by rw [← hwx]; simp
            have x1 : wx.cell? ⟨wr.heap.size, 1, none⟩ = some (.int .i64 0) := by rw [← hwx]; simp
            have x2 : wx.cell? ⟨wr.heap.size, 2, none⟩ = some (.string D.name) := by rw [← hwx]; simp
            have x3 : wx.cell? ⟨wr.heap.size, 3, none⟩ = some (.slice (some ⟨gd, od, none⟩) D.len cd) := by rw [← hwx]; simp
            have xa : wx.cell? ⟨ga, oa + j, none⟩ = some (.int .i64 (pj : Nat)) := by rw [← hwx]; exact (World.cell?_alloc_past _ _ _ hgaw).trans an
            have HATX := hid_mk (HATS.out (.cells #[.int .i64 D.kind, .int .i64 0, .string D.name, .slice (some ⟨gd, od, none⟩) D.len cd] 30))
            rw [hwx] at HATX
            have HWX := hid_mk hwx
            clear hwx
            go_still_tail 5, hmix
            go_wp2_with (go_at_call 36; refine HATX.out.mono ?_; rintro e x1 ⟨u1, rfl, hats, hb1⟩; rw [← HWX.out] at hats hb1; obtain ⟨own3, hs1, hback, hgo⟩ := HGO.out x1 u1 _ hb1 hats; obtain ⟨ga1, oa1, ca1, rfl, hca1, hav1⟩ := hgo.ats (by omega); have HG1 := hid_mk hgo; have HAV1 := hid_mk hav1; have HBK1 := hid_mk hback; obtain ⟨b0, b1, b2, b3⟩ := (show x1.cell? ⟨wr.heap.size, 0, none⟩ = _ ∧ x1.cell? ⟨wr.heap.size, 1, none⟩ = _ ∧ x1.cell? ⟨wr.heap.size, 2, none⟩ = _ ∧ x1.cell? ⟨wr.heap.size, 3, none⟩ = _ from HG1.out.box _ _ _ _ _ hs1); rw [HNUM.out] at b1; have an := HAV.out _ _ _ _ _ (HBK1.out _ _ _ _ _ hs1); have a0 := HAV1.out _ _ _ _ _ hs1 0 (by omega); rw [Nat.add_zero] at a0; obtain ⟨c00, c01, c02, c03⟩ := HC0.out _ (HG1.out.below _ _ _ _ _ hs1); have k5 := hs1.code0; have HS1 := hid_mk hs1; clear hs1 hback hgo hav1 hats hb1)
            go_wp2_with (go_at_call 38; refine (fail_any HS1.out 6 (by decide) pj).mono ?_; rintro e x4 ⟨rfl, hs4⟩; have HS4 := hid_mk (HB2.out _ _ _ _ _ (HBK1.out _ _ _ _ _ hs4)); clear hs4)
            first | go_end0 | refine bodyPost_ret (results_none rfl _ _ _) rfl ?_
            refine ⟨rfl, ?_⟩
            rw [csC_err (e := (6, pj)) (by rw [HNXT.out, cs_0f HDK.out HNUM.out, HPJ.out]) (show j + 1 ≤ T.len by omega)]
            exact HS4.out
          | false =>
            rw [hf] at HNXT HFN
            clear hf
            go_wp2
            generalize hwx : wr.alloc (.cells #[.int .i64 D.kind, .int .i64 0, .string D.name, .slice (some ⟨gd, od, none⟩) D.len cd] 30) = wx
            have x0 : wx.cell? ⟨wr.heap.size, 0, none⟩ = some (.int .i64 D.kind) := by rw [← hwx]; simp
            have x1 : wx.cell? ⟨wr.heap.size, 1, none⟩ = some (.int .i64 0) := by rw [← hwx]; simp
            have x2 : wx.cell? ⟨wr.heap.size, 2, none⟩ = some (.string D.name) := by rw [← hwx]; simp
            have x3 : wx.cell? ⟨wr.heap.size, 3, none⟩ = some (.slice (some ⟨gd, od, none⟩) D.len cd) := by rw [← hwx]; simp
            have xa : wx.cell? ⟨ga, oa + j, none⟩ = some (.int .i64 (pj : Nat)) := by rw [← hwx]; exact (World.cell?_alloc_past _ _ _ hgaw).trans an
            have HATX := hid_mk (HATS.out (.cells #[.int .i64 D.kind, .int .i64 0, .string D.name, .slice (some ⟨gd, od, none⟩) D.len cd] 30))
            rw [hwx] at HATX
            have HWX := hid_mk hwx
            clear hwx
            go_still_tail 5, hmix
            go_wp2_with (go_at_call 36; refine HATX.out.mono ?_; rintro e x1 ⟨u1, rfl, hats, hb1⟩; rw [← HWX.out] at hats hb1; obtain ⟨own3, hs1, hback, hgo⟩ := HGO.out x1 u1 _ hb1 hats; obtain ⟨ga1, oa1, ca1, rfl, hca1, hav1⟩ := hgo.ats (by omega); have HG1 := hid_mk hgo; have HAV1 := hid_mk hav1; have HBK1 := hid_mk hback; obtain ⟨b0, b1, b2, b3⟩ := (show x1.cell? ⟨wr.heap.size, 0, none⟩ = _ ∧ x1.cell? ⟨wr.heap.size, 1, none⟩ = _ ∧ x1.cell? ⟨wr.heap.size, 2, none⟩ = _ ∧ x1.cell? ⟨wr.heap.size, 3, none⟩ = _ from HG1.out.box _ _ _ _ _ hs1); rw [HNUM.out] at b1; have an := HAV.out _ _ _ _ _ (HBK1.out _ _ _ _ _ hs1); have a0 := HAV1.out _ _ _ _ _ hs1 0 (by omega); rw [Nat.add_zero] at a0; obtain ⟨c00, c01, c02, c03⟩ := HC0.out _ (HG1.out.below _ _ _ _ _ hs1); have k5 := hs1.code0; have HS1 := hid_mk hs1; clear hs1 hback hgo hav1 hats hb1)
            go_still_tail 16, hmix
            go_wp2_with (go_at_call 87; refine (HBL.out x1 own3 _ _ HG1.out _ _ (by rw [take0_len, HPJ.out]; rfl) HS1.out.drew).mono ?_; rintro e x4 ⟨rfl, hs4⟩; have HS4 := hid_mk (HBK1.out _ _ _ _ _ hs4); clear hs4)
            refine ⟨⟨j + 1, by omega, by go_num, by rw [HFN.out, HNUM.out]; rfl, ?_⟩, by simp [intOf]; omega⟩
            rw [HNXT.out, cs_0n HDK.out HNUM.out HLL.out]
            exact HS4.out
        · rw [hL] at hB4 hBok
          have HNUM := hid_mk hN1
          rw [hN1] at HATS HGO c1
          have hL1 : (D.len : Int) - 1 = 1 := by omega
          have hpos : 0 < D.len := by omega
          have hpos1 : (1 : Int) < (D.len : Int) := by omega
          have hpos1n : 1 < D.len := by omega
          obtain ⟨ud0, hc0, hr0⟩ := hkd 0 (by omega)
          simp only [Nat.zero_mul, Nat.add_zero] at hc0
          have HC0 := hid_mk hc0
          have HW0 := hid_mk (fun (x1 : World) (own3 : Option Nat) (b3 : Nat) (u3 : Value) (hg3 : SGo K wr.drew x1 own3 b3 D (.slice (some ⟨gd, od, none⟩) D.len cd) u3 pj) (X : World) (σ : CR CS) (q : Nat) (ty : Int) (hX : SS K x1 own3 σ cx.ret cx.loops cx.outs X) (ha : SAt K (D.kids 0) σ q) => want_every (D.kids 0) K x1 own3 σ cx.ret cx.loops cx.outs X ud0 q ty hX (hg3.env HED.out hX) ((HFD.out.kid (by omega) hr0).later (hg3.below _ _ _ _ _ hX)) ha he0)
          obtain ⟨ud1, hc1, hr1⟩ := hkd 1 (by omega)
          simp only [Nat.one_mul] at hc1
          have HC1 := hid_mk hc1
          have hkz := kid_size D (i := 1) (by omega)
          have hkf := kidAt_le D pj (i := 1) (by omega)
          have HBL := hid_mk (fun (x1 : World) (own3 : Option Nat) (b3 : Nat) (u3 : Value) (hg3 : SGo K wr.drew x1 own3 b3 D (.slice (some ⟨gd, od, none⟩) D.len cd) u3 pj) (X : World) (s1 : CS) (hp1 : s1.2.length = kidAt D pj 1) (hX : SS K x1 own3 (.ok s1) cx.ret cx.loops cx.outs X) => blk_at (T := D.kids 1) hB4 (fun i hi => HREC.out _ (by have := kid_size (D.kids 1) hi; omega)) K x1 own3 s1 cx X ud1 (kidAt D pj 1) hp1 hX (hg3.env HED.out hX) ((HFD.out.kid (by omega) hr1).later (hg3.below _ _ _ _ _ hX)) (by omega) hBok (by omega) (by omega) D pj)
          have HA0 : Hid (SAt K (D.kids 0) (.ok (take0 sj)) (kidAt D pj 0)) := by rw [← HPJ.out]; exact SAt.kid0 (by rw [HPJ.out]; omega) hfew (by omega)
          have HDK := hid_mk hDk
          have HLL := hid_mk hL
          have HFE : Hid (fnd T (j + 1) = fnd T j) := by unfold Hid; rw [HFN.out, HNUM.out]; simp
          have HCS : Hid (csC K.F T cx (take0 s) (j + 1) = CR.bind (wantC K (D.kids 0) 3 (.ok (take0 sj))) (within (nmL D) ((mnT K.F (D.kids 1)).sts cx))) := by
            unfold Hid; rw [HNXT.out, cs_1 HDK.out HNUM.out HLL.out]
            rfl
          cases hσ : wantC K (D.kids 0) 3 (.ok (take0 sj)) with
          | error e0 =>
            rw [hσ] at HCS
            have HSG := hid_mk hσ
            clear hσ
            clear hDk hL hkd hB4 hBok hc0 hr0 hc1 hr1 he0
            generalize fnd T j = fj at *
            cases fj with
            | true =>
              go_wp2
              generalize hwx : wr.alloc (.cells #[.int .i64 D.kind, .int .i64 1, .string D.name, .slice (some ⟨gd, od, none⟩) D.len cd] 30) = wx
              have x0 : wx.cell? ⟨wr.heap.size, 0, none⟩ = some (.int .i64 D.kind) := by rw [← hwx]; simp
              have x1 : wx.cell? ⟨wr.heap.size, 1, none⟩ = some (.int .i64 1) := by rw [← hwx]; simp
              have x2 : wx.cell? ⟨wr.heap.size, 2, none⟩ = some (.string D.name) := by rw [← hwx]; simp
              have x3 : wx.cell? ⟨wr.heap.size, 3, none⟩ = some (.slice (some ⟨gd, od, none⟩) D.len cd) := by rw [← hwx]; simp
              have xa : wx.cell? ⟨ga, oa + j, none⟩ = some (.int .i64 (pj : Nat)) := by rw [← hwx]; exact (World.cell?_alloc_past _ _ _ hgaw).trans an
              have HATX := hid_mk (HATS.out (.cells #[.int .i64 D.kind, .int .i64 1, .string D.name, .slice (some ⟨gd, od, none⟩) D.len cd] 30))
              rw [hwx] at HATX
              have HWX := hid_mk hwx
              clear hwx
              go_still_tail 5, hmix
              go_wp2_with (go_at_call 36; refine HATX.out.mono ?_; rintro e x1 ⟨u1, rfl, hats, hb1⟩; rw [← HWX.out] at hats hb1; obtain ⟨own3, hs1, hback, hgo⟩ := HGO.out x1 u1 _ hb1 hats; obtain ⟨ga1, oa1, ca1, rfl, hca1, hav1⟩ := hgo.ats (by omega); have HG1 := hid_mk hgo; have HAV1 := hid_mk hav1; have HBK1 := hid_mk hback; obtain ⟨b0, b1, b2, b3⟩ := (show x1.cell? ⟨wr.heap.size, 0, none⟩ = _ ∧ x1.cell? ⟨wr.heap.size, 1, none⟩ = _ ∧ x1.cell? ⟨wr.heap.size, 2, none⟩ = _ ∧ x1.cell? ⟨wr.heap.size, 3, none⟩ = _ from HG1.out.box _ _ _ _ _ hs1); rw [HNUM.out] at b1; have an := HAV.out _ _ _ _ _ (HBK1.out _ _ _ _ _ hs1); have a0 := HAV1.out _ _ _ _ _ hs1 0 (by omega); rw [Nat.add_zero] at a0; obtain ⟨c00, c01, c02, c03⟩ := HC0.out _ (HG1.out.below _ _ _ _ _ hs1); have a1 := HAV1.out _ _ _ _ _ hs1 1 (by omega); obtain ⟨c10, c11, c12, c13⟩ := HC1.out _ (HG1.out.below _ _ _ _ _ hs1); have k5 := hs1.code0; have HS1 := hid_mk hs1; clear hs1 hback hgo hav1 hats hb1)
              go_still_tail 8, hmix
              go_wp2_with (go_at_call 90; refine (HW0.out x1 own3 _ _ HG1.out _ _ _ _ HS1.out.drew HA0.out).mono ?_; rintro e x2 ⟨rfl, hs2⟩; rw [HSG.out] at hs2; obtain ⟨b0, b1, b2, b3⟩ := (show x2.cell? ⟨wr.heap.size, 0, none⟩ = _ ∧ x2.cell? ⟨wr.heap.size, 1, none⟩ = _ ∧ x2.cell? ⟨wr.heap.size, 2, none⟩ = _ ∧ x2.cell? ⟨wr.heap.size, 3, none⟩ = _ from HG1.out.box _ _ _ _ _ hs2); rw [HNUM.out] at b1; have an := HAV.out _ _ _ _ _ (HBK1.out _ _ _ _ _ hs2); have a0 := HAV1.out _ _ _ _ _ hs2 0 (by omega); rw [Nat.add_zero] at a0; obtain ⟨c00, c01, c02, c03⟩ := HC0.out _ (HG1.out.below _ _ _ _ _ hs2); have a1 := HAV1.out _ _ _ _ _ hs2 1 (by omega); obtain ⟨c10, c11, c12, c13⟩ := HC1.out _ (HG1.out.below _ _ _ _ _ hs2); obtain ⟨code, k5, hz⟩ := hs2.code1; have HS2 := hid_mk hs2; clear hs2)
              refine ⟨⟨j + 1, by omega, by go_num, by rw [HFE.out], ?_⟩, by simp [intOf]; omega⟩
              rw [HCS.out]
              exact HBK1.out _ _ _ _ _ HS2.out
            | false =>
              go_wp2
              generalize hwx : wr.alloc (.cells #[.int .i64 D.kind, .int .i64 1, .string D.name, .slice (some ⟨gd, od, none⟩) D.len cd] 30) = wx
              have x0 : wx.cell? ⟨wr.heap.size, 0, none⟩ = some (.int .i64 D.kind) := by rw [← hwx]; simp
              have x1 : wx.cell? ⟨wr.heap.size, 1, none⟩ = some (.int .i64 1) := by rw [← hwx]; simp
              have x2 : wx.cell? ⟨wr.heap.size, 2, none⟩ = some (.string D.name) := by rw [← hwx]; simp
              have x3 : wx.cell? ⟨wr.heap.size, 3, none⟩ = some (.slice (some ⟨gd, od, none⟩) D.len cd) := by rw [← hwx]; simp
              have xa : wx.cell? ⟨ga, oa + j, none⟩ = some (.int .i64 (pj : Nat)) := by rw [← hwx]; exact (World.cell?_alloc_past _ _ _ hgaw).trans an
              have HATX := hid_mk (HATS.out (.cells #[.int .i64 D.kind, .int .i64 1, .string D.name, .slice (some ⟨gd, od, none⟩) D.len cd] 30))
              rw [hwx] at HATX
              have HWX := hid_mk hwx
              clear hwx
              go_still_tail 5, hmix
              go_wp2_with (go_at_call 36; refine HATX.out.mono ?_; rintro e x1 ⟨u1, rfl, hats, hb1⟩; rw [← HWX.out] at hats hb1; obtain ⟨own3, hs1, hback, hgo⟩ := HGO.out x1 u1 _ hb1 hats; obtain ⟨ga1, oa1, ca1, rfl, hca1, hav1⟩ := hgo.ats (by omega); have HG1 := hid_mk hgo; have HAV1 := hid_mk hav1; have HBK1 := hid_mk hback; obtain ⟨b0, b1, b2, b3⟩ := (show x1.cell? ⟨wr.heap.size, 0, none⟩ = _ ∧ x1.cell? ⟨wr.heap.size, 1, none⟩ = _ ∧ x1.cell? ⟨wr.heap.size, 2, none⟩ = _ ∧ x1.cell? ⟨wr.heap.size, 3, none⟩ = _ from HG1.out.box _ _ _ _ _ hs1); rw [HNUM.out] at b1; have an := HAV.out _ _ _ _ _ (HBK1.out _ _ _ _ _ hs1); have a0 := HAV1.out _ _ _ _ _ hs1 0 (by omega); rw [Nat.add_zero] at a0; obtain ⟨c00, c01, c02, c03⟩ := HC0.out _ (HG1.out.below _ _ _ _ _ hs1); have a1 := HAV1.out _ _ _ _ _ hs1 1 (by omega); obtain ⟨c10, c11, c12, c13⟩ := HC1.out _ (HG1.out.below _ _ _ _ _ hs1); have k5 := hs1.code0; have HS1 := hid_mk hs1; clear hs1 hback hgo hav1 hats hb1)
              go_still_tail 8, hmix
              go_wp2_with (go_at_call 90; refine (HW0.out x1 own3 _ _ HG1.out _ _ _ _ HS1.out.drew HA0.out).mono ?_; rintro e x2 ⟨rfl, hs2⟩; rw [HSG.out] at hs2; obtain ⟨b0, b1, b2, b3⟩ := (show x2.cell? ⟨wr.heap.size, 0, none⟩ = _ ∧ x2.cell? ⟨wr.heap.size, 1, none⟩ = _ ∧ x2.cell? ⟨wr.heap.size, 2, none⟩ = _ ∧ x2.cell? ⟨wr.heap.size, 3, none⟩ = _ from HG1.out.box _ _ _ _ _ hs2); rw [HNUM.out] at b1; have an := HAV.out _ _ _ _ _ (HBK1.out _ _ _ _ _ hs2); have a0 := HAV1.out _ _ _ _ _ hs2 0 (by omega); rw [Nat.add_zero] at a0; obtain ⟨c00, c01, c02, c03⟩ := HC0.out _ (HG1.out.below _ _ _ _ _ hs2); have a1 := HAV1.out _ _ _ _ _ hs2 1 (by omega); obtain ⟨c10, c11, c12, c13⟩ := HC1.out _ (HG1.out.below _ _ _ _ _ hs2); obtain ⟨code, k5, hz⟩ := hs2.code1; have HS2 := hid_mk hs2; clear hs2)
              refine ⟨⟨j + 1, by omega, by go_num, by rw [HFE.out], ?_⟩, by simp [intOf]; omega⟩
              rw [HCS.out]
              exact HBK1.out _ _ _ _ _ HS2.out
          | ok s1 =>
            have hs1l : s1.2.length = kidAt D pj 1 := (by obtain ⟨q1, e1, e2⟩ := want_next he0 s1 hσ; injection e1 with e1; subst e1; rw [e2, take0_len, hpj, kidAt_succ, kidAt_0])
            rw [hσ] at HCS
            have HSG := hid_mk hσ
            have HS1L := hid_mk hs1l
            clear hσ hs1l
            clear hDk hL hkd hB4 hBok hc0 hr0 hc1 hr1 he0
            generalize fnd T j = fj at *
            cases fj with
            | true =>
              go_wp2
              generalize hwx : wr.alloc (.cells #[.int .i64 D.kind, .int .i64 1, .string D.name, .slice (some ⟨gd, od, none⟩) D.len cd] 30) = wx
              have x0 : wx.cell? ⟨wr.heap.size, 0, none⟩ = some (.int .i64 D.kind) := by rw [← hwx]; simp
              have x1 : wx.cell? ⟨wr.heap.size, 1, none⟩ = some (.int .i64 1) := by rw [← hwx]; simp
              have x2 : wx.cell? ⟨wr.heap.size, 2, none⟩ = some (.string D.name) := by rw [← hwx]; simp
              have x3 : wx.cell? ⟨wr.heap.size, 3, none⟩ = some (.slice (some ⟨gd, od, none⟩) D.len cd) := by rw [← hwx]; simp
              have xa : wx.cell? ⟨ga, oa + j, none⟩ = some (.int .i64 (pj : Nat)) := by rw [← hwx]; exact (World.cell?_alloc_past _ _ _ hgaw).trans an
              have HATX := hid_mk (HATS.out (.cells #[.int .i64 D.kind, .int .i64 1, .string D.name, .slice (some ⟨gd, od, none⟩) D.len cd] 30))
              rw [hwx] at HATX
              have HWX := hid_mk hwx
              clear hwx
              go_still_tail 5, hmix
              go_wp2_with (go_at_call 36; refine HATX.out.mono ?_; rintro e x1 ⟨u1, rfl, hats, hb1⟩; rw [← HWX.out] at hats hb1; obtain ⟨own3, hs1, hback, hgo⟩ := HGO.out x1 u1 _ hb1 hats; obtain ⟨ga1, oa1, ca1, rfl, hca1, hav1⟩ := hgo.ats (by omega); have HG1 := hid_mk hgo; have HAV1 := hid_mk hav1; have HBK1 := hid_mk hback; obtain ⟨b0, b1, b2, b3⟩ := (show x1.cell? ⟨wr.heap.size, 0, none⟩ = _ ∧ x1.cell? ⟨wr.heap.size, 1, none⟩ = _ ∧ x1.cell? ⟨wr.heap.size, 2, none⟩ = _ ∧ x1.cell? ⟨wr.heap.size, 3, none⟩ = _ from HG1.out.box _ _ _ _ _ hs1); rw [HNUM.out] at b1; have an := HAV.out _ _ _ _ _ (HBK1.out _ _ _ _ _ hs1); have a0 := HAV1.out _ _ _ _ _ hs1 0 (by omega); rw [Nat.add_zero] at a0; obtain ⟨c00, c01, c02, c03⟩ := HC0.out _ (HG1.out.below _ _ _ _ _ hs1); have a1 := HAV1.out _ _ _ _ _ hs1 1 (by omega); obtain ⟨c10, c11, c12, c13⟩ := HC1.out _ (HG1.out.below _ _ _ _ _ hs1); have k5 := hs1.code0; have HS1 := hid_mk hs1; clear hs1 hback hgo hav1 hats hb1)
              go_still_tail 8, hmix
              go_wp2_with (go_at_call 90; refine (HW0.out x1 own3 _ _ HG1.out _ _ _ _ HS1.out.drew HA0.out).mono ?_; rintro e x2 ⟨rfl, hs2⟩; rw [HSG.out] at hs2; obtain ⟨b0, b1, b2, b3⟩ := (show x2.cell? ⟨wr.heap.size, 0, none⟩ = _ ∧ x2.cell? ⟨wr.heap.size, 1, none⟩ = _ ∧ x2.cell? ⟨wr.heap.size, 2, none⟩ = _ ∧ x2.cell? ⟨wr.heap.size, 3, none⟩ = _ from HG1.out.box _ _ _ _ _ hs2); rw [HNUM.out] at b1; have an := HAV.out _ _ _ _ _ (HBK1.out _ _ _ _ _ hs2); have a0 := HAV1.out _ _ _ _ _ hs2 0 (by omega); rw [Nat.add_zero] at a0; obtain ⟨c00, c01, c02, c03⟩ := HC0.out _ (HG1.out.below _ _ _ _ _ hs2); have a1 := HAV1.out _ _ _ _ _ hs2 1 (by omega); obtain ⟨c10, c11, c12, c13⟩ := HC1.out _ (HG1.out.below _ _ _ _ _ hs2); have k5 := hs2.code0; have HS2 := hid_mk hs2; clear hs2)
              go_still_tail 16, hmix
              go_wp2_with (go_at_call 87; refine (HBL.out x1 own3 _ _ HG1.out _ _ HS1L.out HS2.out.drew).mono ?_; rintro e x4 ⟨rfl, hs4⟩; have HS4 := hid_mk (HBK1.out _ _ _ _ _ hs4); clear hs4)
              refine ⟨⟨j + 1, by omega, by go_num, by rw [HFE.out], ?_⟩, by simp [intOf]; omega⟩
              rw [HCS.out]
              exact HS4.out
            | false =>
              go_wp2
              generalize hwx : wr.alloc (.cells #[.int .i64 D.kind, .int .i64 1, .string D.name, .slice (some ⟨gd, od, none⟩) D.len cd] 30) = wx
              have x0 : wx.cell? ⟨wr.heap.size, 0, none⟩ = some (.int .i64 D.kind) := by rw [← hwx]; simp
              have x1 : wx.cell? ⟨wr.heap.size, 1, none⟩ = some (.int .i64 1) := by rw [← hwx]; simp
              have x2 : wx.cell? ⟨wr.heap.size, 2, none⟩ = some (.string D.name) := by rw [← hwx]; simp
              have x3 : wx.cell? ⟨wr.heap.size, 3, none⟩ = some (.slice (some ⟨gd, od, none⟩) D.len cd) := by rw [← hwx]; simp
              have xa : wx.cell? ⟨ga, oa + j, none⟩ = some (.int .i64 (pj : Nat)) := by rw [← hwx]; exact (World.cell?_alloc_past _ _ _ hgaw).trans an
              have HATX := hid_mk (HATS.out (.cells #[.int .i64 D.kind, .int .i64 1, .string D.name, .slice (some ⟨gd, od, none⟩) D.len cd] 30))
              rw [hwx] at HATX
              have HWX := hid_mk hwx
              clear hwx
              go_still_tail 5, hmix
              go_wp2_with (go_at_call 36; refine HATX.out.mono ?_; rintro e x1 ⟨u1, rfl, hats, hb1⟩; rw [← HWX.out] at hats hb1; obtain ⟨own3, hs1, hback, hgo⟩ := HGO.out x1 u1 _ hb1 hats; obtain ⟨ga1, oa1, ca1, rfl, hca1, hav1⟩ := hgo.ats (by omega); have HG1 := hid_mk hgo; have HAV1 := hid_mk hav1; have HBK1 := hid_mk hback; obtain ⟨b0, b1, b2, b3⟩ := (show x1.cell? ⟨wr.heap.size, 0, none⟩ = _ ∧ x1.cell? ⟨wr.heap.size, 1, none⟩ = _ ∧ x1.cell? ⟨wr.heap.size, 2, none⟩ = _ ∧ x1.cell? ⟨wr.heap.size, 3, none⟩ = _ from HG1.out.box _ _ _ _ _ hs1); rw [HNUM.out] at b1; have an := HAV.out _ _ _ _ _ (HBK1.out _ _ _ _ _ hs1); have a0 := HAV1.out _ _ _ _ _ hs1 0 (by omega); rw [Nat.add_zero] at a0; obtain ⟨c00, c01, c02, c03⟩ := HC0.out _ (HG1.out.below _ _ _ _ _ hs1); have a1 := HAV1.out _ _ _ _ _ hs1 1 (by omega); obtain ⟨c10, c11, c12, c13⟩ := HC1.out _ (HG1.out.below _ _ _ _ _ hs1); have k5 := hs1.code0; have HS1 := hid_mk hs1; clear hs1 hback hgo hav1 hats hb1)
              go_still_tail 8, hmix
              go_wp2_with (go_at_call 90; refine (HW0.out x1 own3 _ _ HG1.out _ _ _ _ HS1.out.drew HA0.out).mono ?_; rintro e x2 ⟨rfl, hs2⟩; rw [HSG.out] at hs2; obtain ⟨b0, b1, b2, b3⟩ := (show x2.cell? ⟨wr.heap.size, 0, none⟩ = _ ∧ x2.cell? ⟨wr.heap.size, 1, none⟩ = _ ∧ x2.cell? ⟨wr.heap.size, 2, none⟩ = _ ∧ x2.cell? ⟨wr.heap.size, 3, none⟩ = _ from HG1.out.box _ _ _ _ _ hs2); rw [HNUM.out] at b1; have an := HAV.out _ _ _ _ _ (HBK1.out _ _ _ _ _ hs2); have a0 := HAV1.out _ _ _ _ _ hs2 0 (by omega); rw [Nat.add_zero] at a0; obtain ⟨c00, c01, c02, c03⟩ := HC0.out _ (HG1.out.below _ _ _ _ _ hs2); have a1 := HAV1.out _ _ _ _ _ hs2 1 (by omega); obtain ⟨c10, c11, c12, c13⟩ := HC1.out _ (HG1.out.below _ _ _ _ _ hs2); have k5 := hs2.code0; have HS2 := hid_mk hs2; clear hs2)
              go_still_tail 16, hmix
              go_wp2_with (go_at_call 87; refine (HBL.out x1 own3 _ _ HG1.out _ _ HS1L.out HS2.out.drew).mono ?_; rintro e x4 ⟨rfl, hs4⟩; have HS4 := hid_mk (HBK1.out _ _ _ _ _ hs4); clear hs4)
              refine ⟨⟨j + 1, by omega, by go_num, by rw [HFE.out], ?_⟩, by simp [intOf]; omega⟩
              rw [HCS.out]
              exact HS4.out
        · rw [hL] at hB4 hBok
          have HNUM := hid_mk hN2
          rw [hN2] at HATS HGO c1
          have hL1 : (D.len : Int) - 1 = 2 := by omega
          have hpos : 0 < D.len := by omega
          have hpos1 : (1 : Int) < (D.len : Int) := by omega
          have hpos1n : 1 < D.len := by omega
          have hpos2 : (2 : Int) < (D.len : Int) := by omega
          have hpos2n : 2 < D.len := by omega
          obtain ⟨ud0, hc0, hr0⟩ := hkd 0 (by omega)
          simp only [Nat.zero_mul, Nat.add_zero] at hc0
          have HC0 := hid_mk hc0
          have HW0 := hid_mk (fun (x1 : World) (own3 : Option Nat) (b3 : Nat) (u3 : Value) (hg3 : SGo K wr.drew x1 own3 b3 D (.slice (some ⟨gd, od, none⟩) D.len cd) u3 pj) (X : World) (σ : CR CS) (q : Nat) (ty : Int) (hX : SS K x1 own3 σ cx.ret cx.loops cx.outs X) (ha : SAt K (D.kids 0) σ q) => want_every (D.kids 0) K x1 own3 σ cx.ret cx.loops cx.outs X ud0 q ty hX (hg3.env HED.out hX) ((HFD.out.kid (by omega) hr0).later (hg3.below _ _ _ _ _ hX)) ha he0)
          obtain ⟨ud1, hc1, hr1⟩ := hkd 1 (by omega)
          simp only [Nat.one_mul] at hc1
          have HC1 := hid_mk hc1
          have HW1 := hid_mk (fun (x1 : World) (own3 : Option Nat) (b3 : Nat) (u3 : Value) (hg3 : SGo K wr.drew x1 own3 b3 D (.slice (some ⟨gd, od, none⟩) D.len cd) u3 pj) (X : World) (σ : CR CS) (q : Nat) (ty : Int) (hX : SS K x1 own3 σ cx.ret cx.loops cx.outs X) (ha : SAt K (D.kids 1) σ q) => want_every (D.kids 1) K x1 own3 σ cx.ret cx.loops cx.outs X ud1 q ty hX (hg3.env HED.out hX) ((HFD.out.kid (by omega) hr1).later (hg3.below _ _ _ _ _ hX)) ha he1)
          obtain ⟨ud2, hc2, hr2⟩ := hkd 2 (by omega)
          simp only [Nat.reduceMul] at hc2
          have HC2 := hid_mk hc2
          have hkz := kid_size D (i := 2) (by omega)
          have hkf := kidAt_le D pj (i := 2) (by omega)
          have HBL := hid_mk (fun (x1 : World) (own3 : Option Nat) (b3 : Nat) (u3 : Value) (hg3 : SGo K wr.drew x1 own3 b3 D (.slice (some ⟨gd, od, none⟩) D.len cd) u3 pj) (X : World) (s1 : CS) (hp1 : s1.2.length = kidAt D pj 2) (hX : SS K x1 own3 (.ok s1) cx.ret cx.loops cx.outs X) => blk_at (T := D.kids 2) hB4 (fun i hi => HREC.out _ (by have := kid_size (D.kids 2) hi; omega)) K x1 own3 s1 cx X ud2 (kidAt D pj 2) hp1 hX (hg3.env HED.out hX) ((HFD.out.kid (by omega) hr2).later (hg3.below _ _ _ _ _ hX)) (by omega) hBok (by omega) (by omega) D pj)
          have HA0 : Hid (SAt K (D.kids 0) (.ok (take0 sj)) (kidAt D pj 0)) := by rw [← HPJ.out]; exact SAt.kid0 (by rw [HPJ.out]; omega) hfew (by omega)
          have HA1 := hid_mk (SAt.next (τ := wantC K (D.kids 0) 3 (.ok (take0 sj))) HA0.out (by omega) (by omega) hfew (want_next he0))
          have HDK := hid_mk hDk
          have HLL := hid_mk hL
          have HFE : Hid (fnd T (j + 1) = fnd T j) := by unfold Hid; rw [HFN.out, HNUM.out]; simp
          have HCS : Hid (csC K.F T cx (take0 s) (j + 1) = CR.bind (wantC K (D.kids 1) 1 (wantC K (D.kids 0) 3 (.ok (take0 sj)))) (within (nmL D) ((mnT K.F (D.kids 2)).sts cx))) := by
            unfold Hid; rw [HNXT.out, cs_2 HDK.out HNUM.out HLL.out]
            show _ = CR.bind (CR.bind (wantM (exT K.F (D.kids 0)) 3 (take0 sj)) (wantM (exT K.F (D.kids 1)) 1)) _
            cases wantM (exT K.F (D.kids 0)) 3 (take0 sj) <;> rfl
          cases hσ : wantC K (D.kids 1) 1 (wantC K (D.kids 0) 3 (.ok (take0 sj))) with
          | error e0 =>
            rw [hσ] at HCS
            have HSG := hid_mk hσ
            clear hσ
            clear hDk hL hkd hB4 hBok hc0 hr0 hc1 hr1 hc2 hr2 he0 he1
            generalize fnd T j = fj at *
            cases fj with
            | true =>
              go_wp2
              generalize hwx : wr.alloc (.cells #[.int .i64 D.kind, .int .i64 2, .string D.name, .slice (some ⟨gd, od, none⟩) D.len cd] 30) = wx
              have x0 : wx.cell? ⟨wr.heap.size, 0, none⟩ = some (.int .i64 D.kind) := by rw [← hwx]; simp
              have x1 : wx.cell? ⟨wr.heap.size, 1, none⟩ = some (.int .i64 2) := by rw [← hwx]; simp
              have x2 : wx.cell? ⟨wr.heap.size, 2, none⟩ = some (.string D.name) := by rw [← hwx]; simp
              have x3 : wx.cell? ⟨wr.heap.size, 3, none⟩ = some (.slice (some ⟨gd, od, none⟩) D.len cd) := by rw [← hwx]; simp
              have xa : wx.cell? ⟨ga, oa + j, none⟩ = some (.int .i64 (pj : Nat)) := by rw [← hwx]; exact (World.cell?_alloc_past _ _ _ hgaw).trans an
              have HATX := hid_mk (HATS.out (.cells #[.int .i64 D.kind, .int .i64 2, .string D.name, .slice (some ⟨gd, od, none⟩) D.len cd] 30))
              rw [hwx] at HATX
              have HWX := hid_mk hwx
              clear hwx
              go_still_tail 5, hmix
              go_wp2_with (go_at_call 36; refine HATX.out.mono ?_; rintro e x1 ⟨u1, rfl, hats, hb1⟩; rw [← HWX.out] at hats hb1; obtain ⟨own3, hs1, hback, hgo⟩ := HGO.out x1 u1 _ hb1 hats; obtain ⟨ga1, oa1, ca1, rfl, hca1, hav1⟩ := hgo.ats (by omega); have HG1 := hid_mk hgo; have HAV1 := hid_mk hav1; have HBK1 := hid_mk hback; obtain ⟨b0, b1, b2, b3⟩ := (show x1.cell? ⟨wr.heap.size, 0, none⟩ = _ ∧ x1.cell? ⟨wr.heap.size, 1, none⟩ = _ ∧ x1.cell? ⟨wr.heap.size, 2, none⟩ = _ ∧ x1.cell? ⟨wr.heap.size, 3, none⟩ = _ from HG1.out.box _ _ _ _ _ hs1); rw [HNUM.out] at b1; have an := HAV.out _ _ _ _ _ (HBK1.out _ _ _ _ _ hs1); have a0 := HAV1.out _ _ _ _ _ hs1 0 (by omega); rw [Nat.add_zero] at a0; obtain ⟨c00, c01, c02, c03⟩ := HC0.out _ (HG1.out.below _ _ _ _ _ hs1); have a1 := HAV1.out _ _ _ _ _ hs1 1 (by omega); obtain ⟨c10, c11, c12, c13⟩ := HC1.out _ (HG1.out.below _ _ _ _ _ hs1); have a2 := HAV1.out _ _ _ _ _ hs1 2 (by omega); obtain ⟨c20, c21, c22, c23⟩ := HC2.out _ (HG1.out.below _ _ _ _ _ hs1); have k5 := hs1.code0; have HS1 := hid_mk hs1; clear hs1 hback hgo hav1 hats hb1)
              go_still_tail 8, hmix
              go_wp2_with (go_at_call 90; refine (HW0.out x1 own3 _ _ HG1.out _ _ _ _ HS1.out.drew HA0.out).mono ?_; rintro e x3 ⟨rfl, hs3⟩; obtain ⟨b0, b1, b2, b3⟩ := (show x3.cell? ⟨wr.heap.size, 0, none⟩ = _ ∧ x3.cell? ⟨wr.heap.size, 1, none⟩ = _ ∧ x3.cell? ⟨wr.heap.size, 2, none⟩ = _ ∧ x3.cell? ⟨wr.heap.size, 3, none⟩ = _ from HG1.out.box _ _ _ _ _ hs3); rw [HNUM.out] at b1; have an := HAV.out _ _ _ _ _ (HBK1.out _ _ _ _ _ hs3); have a0 := HAV1.out _ _ _ _ _ hs3 0 (by omega); rw [Nat.add_zero] at a0; obtain ⟨c00, c01, c02, c03⟩ := HC0.out _ (HG1.out.below _ _ _ _ _ hs3); have a1 := HAV1.out _ _ _ _ _ hs3 1 (by omega); obtain ⟨c10, c11, c12, c13⟩ := HC1.out _ (HG1.out.below _ _ _ _ _ hs3); have a2 := HAV1.out _ _ _ _ _ hs3 2 (by omega); obtain ⟨c20, c21, c22, c23⟩ := HC2.out _ (HG1.out.below _ _ _ _ _ hs3); have HS3 := hid_mk hs3; clear hs3)
              go_still_tail 8, hmix
              go_wp2_with (go_at_call 90; refine (HW1.out x1 own3 _ _ HG1.out _ _ _ _ HS3.out.drew HA1.out).mono ?_; rintro e x2 ⟨rfl, hs2⟩; rw [HSG.out] at hs2; obtain ⟨b0, b1, b2, b3⟩ := (show x2.cell? ⟨wr.heap.size, 0, none⟩ = _ ∧ x2.cell? ⟨wr.heap.size, 1, none⟩ = _ ∧ x2.cell? ⟨wr.heap.size, 2, none⟩ = _ ∧ x2.cell? ⟨wr.heap.size, 3, none⟩ = _ from HG1.out.box _ _ _ _ _ hs2); rw [HNUM.out] at b1; have an := HAV.out _ _ _ _ _ (HBK1.out _ _ _ _ _ hs2); have a0 := HAV1.out _ _ _ _ _ hs2 0 (by omega); rw [Nat.add_zero] at a0; obtain ⟨c00, c01, c02, c03⟩ := HC0.out _ (HG1.out.below _ _ _ _ _ hs2); have a1 := HAV1.out _ _ _ _ _ hs2 1 (by omega); obtain ⟨c10, c11, c12, c13⟩ := HC1.out _ (HG1.out.below _ _ _ _ _ hs2); have a2 := HAV1.out _ _ _ _ _ hs2 2 (by omega); obtain ⟨c20, c21, c22, c23⟩ := HC2.out _ (HG1.out.below _ _ _ _ _ hs2); obtain ⟨code, k5, hz⟩ := hs2.code1; have HS2 := hid_mk hs2; clear hs2)
              refine ⟨⟨j + 1, by omega, by go_num, by rw [HFE.out], ?_⟩, by simp [intOf]; omega⟩
              rw [HCS.out]
              exact HBK1.out _ _ _ _ _ HS2.out
            | false =>
              go_wp2
              generalize hwx : wr.alloc (.cells #[.int .i64 D.kind, .int .i64 2, .string D.name, .slice (some ⟨gd, od, none⟩) D.len cd] 30) = wx
              have x0 : wx.cell? ⟨wr.heap.size, 0, none⟩ = some (.int .i64 D.kind) := by rw [← hwx]; simp
              have x1 : wx.cell? ⟨wr.heap.size, 1, none⟩ = some (.int .i64 2) := by rw [← hwx]; simp
              have x2 : wx.cell? ⟨wr.heap.size, 2, none⟩ = some (.string D.name) := by rw [← hwx]; simp
              have x3 : wx.cell? ⟨wr.heap.size, 3, none⟩ = some (.slice (some ⟨gd, od, none⟩) D.len cd) := by rw [← hwx]; simp
              have xa : wx.cell? ⟨ga, oa + j, none⟩ = some (.int .i64 (pj : Nat)) := by rw [← hwx]; exact (World.cell?_alloc_past _ _ _ hgaw).trans an
              have HATX := hid_mk (HATS.out (.cells #[.int .i64 D.kind, .int .i64 2, .string D.name, .slice (some ⟨gd, od, none⟩) D.len cd] 30))
              rw [hwx] at HATX
              have HWX := hid_mk hwx
              clear hwx
              go_still_tail 5, hmix
              go_wp2_with (go_at_call 36; refine HATX.out.mono ?_; rintro e x1 ⟨u1, rfl, hats, hb1⟩; rw [← HWX.out] at hats hb1; obtain ⟨own3, hs1, hback, hgo⟩ := HGO.out x1 u1 _ hb1 hats; obtain ⟨ga1, oa1, ca1, rfl, hca1, hav1⟩ := hgo.ats (by omega); have HG1 := hid_mk hgo; have HAV1 := hid_mk hav1; have HBK1 := hid_mk hback; obtain ⟨b0, b1, b2, b3⟩ := (show x1.cell? ⟨wr.heap.size, 0, none⟩ = _ ∧ x1.cell? ⟨wr.heap.size, 1, none⟩ = _ ∧ x1.cell? ⟨wr.heap.size, 2, none⟩ = _ ∧ x1.cell? ⟨wr.heap.size, 3, none⟩ = _ from HG1.out.box _ _ _ _ _ hs1); rw [HNUM.out] at b1; have an := HAV.out _ _ _ _ _ (HBK1.out _ _ _ _ _ hs1); have a0 := HAV1.out _ _ _ _ _ hs1 0 (by omega); rw [Nat.add_zero] at a0; obtain ⟨c00, c01, c02, c03⟩ := HC0.out _ (HG1.out.below _ _ _ _ _ hs1); have a1 := HAV1.out _ _ _ _ _ hs1 1 (by omega); obtain ⟨c10, c11, c12, c13⟩ := HC1.out _ (HG1.out.below _ _ _ _ _ hs1); have a2 := HAV1.out _ _ _ _ _ hs1 2 (by omega); obtain ⟨c20, c21, c22, c23⟩ := HC2.out _ (HG1.out.below _ _ _ _ _ hs1); have k5 := hs1.code0; have HS1 := hid_mk hs1; clear hs1 hback hgo hav1 hats hb1)
              go_still_tail 8, hmix
              go_wp2_with (go_at_call 90; refine (HW0.out x1 own3 _ _ HG1.out _ _ _ _ HS1.out.drew HA0.out).mono ?_; rintro e x3 ⟨rfl, hs3⟩; obtain ⟨b0, b1, b2, b3⟩ := (show x3.cell? ⟨wr.heap.size, 0, none⟩ = _ ∧ x3.cell? ⟨wr.heap.size, 1, none⟩ = _ ∧ x3.cell? ⟨wr.heap.size, 2, none⟩ = _ ∧ x3.cell? ⟨wr.heap.size, 3, none⟩ = _ from HG1.out.box _ _ _ _ _ hs3); rw [HNUM.out] at b1; have an := HAV.out _ _ _ _ _ (HBK1.out _ _ _ _ _ hs3); have a0 := HAV1.out _ _ _ _ _ hs3 0 (by omega); rw [Nat.add_zero] at a0; obtain ⟨c00, c01, c02, c03⟩ := HC0.out _ (HG1.out.below _ _ _ _ _ hs3); have a1 := HAV1.out _ _ _ _ _ hs3 1 (by omega); obtain ⟨c10, c11, c12, c13⟩ := HC1.out _ (HG1.out.below _ _ _ _ _ hs3); have a2 := HAV1.out _ _ _ _ _ hs3 2 (by omega); obtain ⟨c20, c21, c22, c23⟩ := HC2.out _ (HG1.out.below _ _ _ _ _ hs3); have HS3 := hid_mk hs3; clear hs3)
              go_still_tail 8, hmix
              go_wp2_with (go_at_call 90; refine (HW1.out x1 own3 _ _ HG1.out _ _ _ _ HS3.out.drew HA1.out).mono ?_; rintro e x2 ⟨rfl, hs2⟩; rw [HSG.out] at hs2; obtain ⟨b0, b1, b2, b3⟩ := (show x2.cell? ⟨wr.heap.size, 0, none⟩ = _ ∧ x2.cell? ⟨wr.heap.size, 1, none⟩ = _ ∧ x2.cell? ⟨wr.heap.size, 2, none⟩ = _ ∧ x2.cell? ⟨wr.heap.size, 3, none⟩ = _ from HG1.out.box _ _ _ _ _ hs2); rw [HNUM.out] at b1; have an := HAV.out _ _ _ _ _ (HBK1.out _ _ _ _ _ hs2); have a0 := HAV1.out _ _ _ _ _ hs2 0 (by omega); rw [Nat.add_zero] at a0; obtain ⟨c00, c01, c02, c03⟩ := HC0.out _ (HG1.out.below _ _ _ _ _ hs2); have a1 := HAV1.out _ _ _ _ _ hs2 1 (by omega); obtain ⟨c10, c11, c12, c13⟩ := HC1.out _ (HG1.out.below _ _ _ _ _ hs2); have a2 := HAV1.out _ _ _ _ _ hs2 2 (by omega); obtain ⟨c20, c21, c22, c23⟩ := HC2.out _ (HG1.out.below _ _ _ _ _ hs2); obtain ⟨code, k5, hz⟩ := hs2.code1; have HS2 := hid_mk hs2; clear hs2)
              refine ⟨⟨j + 1, by omega, by go_num, by rw [HFE.out], ?_⟩, by simp [intOf]; omega⟩
              rw [HCS.out]
              exact HBK1.out _ _ _ _ _ HS2.out
          | ok s1 =>
            have hs1l : s1.2.length = kidAt D pj 2 := (by obtain ⟨q2, e3, e4⟩ := want_next he1 s1 hσ; obtain ⟨q1, e1, e2⟩ := want_next he0 q2 e3; injection e1 with e1; subst e1; rw [e4, e2, take0_len, hpj, kidAt_succ, kidAt_succ, kidAt_0])
            rw [hσ] at HCS
            have HSG := hid_mk hσ
            have HS1L := hid_mk hs1l
            clear hσ hs1l
            clear hDk hL hkd hB4 hBok hc0 hr0 hc1 hr1 hc2 hr2 he0 he1
            generalize fnd T j = fj at *
            cases fj with
            | true =>
              go_wp2
              generalize hwx : wr.alloc (.cells #[.int .i64 D.kind, .int .i64 2, .string D.name, .slice (some ⟨gd, od, none⟩) D.len cd] 30) = wx
              have x0 : wx.cell? ⟨wr.heap.size, 0, none⟩ = some (.int .i64 D.kind) := by rw [← hwx]; simp
              have x1 : wx.cell? ⟨wr.heap.size, 1, none⟩ = some (.int .i64 2) := by rw [← hwx]; simp
              have x2 : wx.cell? ⟨wr.heap.size, 2, none⟩ = some (.string D.name) := by rw [← hwx]; simp
              have x3 : wx.cell? ⟨wr.heap.size, 3, none⟩ = some (.slice (some ⟨gd, od, none⟩) D.len cd) := by rw [← hwx]; simp
              have xa : wx.cell? ⟨ga, oa + j, none⟩ = some (.int .i64 (pj : Nat)) := by rw [← hwx]; exact (World.cell?_alloc_past _ _ _ hgaw).trans an
              have HATX := hid_mk (HATS.out (.cells #[.int .i64 D.kind, .int .i64 2, .string D.name, .slice (some ⟨gd, od, none⟩) D.len cd] 30))
              rw [hwx] at HATX
              have HWX := hid_mk hwx
              clear hwx
              go_still_tail 5, hmix
              go_wp2_with (go_at_call 36; refine HATX.out.mono ?_; rintro e x1 ⟨u1, rfl, hats, hb1⟩; rw [← HWX.out] at hats hb1; obtain ⟨own3, hs1, hback, hgo⟩ := HGO.out x1 u1 _ hb1 hats; obtain ⟨ga1, oa1, ca1, rfl, hca1, hav1⟩ := hgo.ats (by omega); have HG1 := hid_mk hgo; have HAV1 := hid_mk hav1; have HBK1 := hid_mk hback; obtain ⟨b0, b1, b2, b3⟩ := (show x1.cell? ⟨wr.heap.size, 0, none⟩ = _ ∧ x1.cell? ⟨wr.heap.size, 1, none⟩ = _ ∧ x1.cell? ⟨wr.heap.size, 2, none⟩ = _ ∧ x1.cell? ⟨wr.heap.size, 3, none⟩ = _ from HG1.out.box _ _ _ _ _ hs1); rw [HNUM.out] at b1; have an := HAV.out _ _ _ _ _ (HBK1.out _ _ _ _ _ hs1); have a0 := HAV1.out _ _ _ _ _ hs1 0 (by omega); rw [Nat.add_zero] at a0; obtain ⟨c00, c01, c02, c03⟩ := HC0.out _ (HG1.out.below _ _ _ _ _ hs1); have a1 := HAV1.out _ _ _ _ _ hs1 1 (by omega); obtain ⟨c10, c11, c12, c13⟩ := HC1.out _ (HG1.out.below _ _ _ _ _ hs1); have a2 := HAV1.out _ _ _ _ _ hs1 2 (by omega); obtain ⟨c20, c21, c22, c23⟩ := HC2.out _ (HG1.out.below _ _ _ _ _ hs1); have k5 := hs1.code0; have HS1 := hid_mk hs1; clear hs1 hback hgo hav1 hats hb1)
              go_still_tail 8, hmix
              go_wp2_with (go_at_call 90; refine (HW0.out x1 own3 _ _ HG1.out _ _ _ _ HS1.out.drew HA0.out).mono ?_; rintro e x3 ⟨rfl, hs3⟩; obtain ⟨b0, b1, b2, b3⟩ := (show x3.cell? ⟨wr.heap.size, 0, none⟩ = _ ∧ x3.cell? ⟨wr.heap.size, 1, none⟩ = _ ∧ x3.cell? ⟨wr.heap.size, 2, none⟩ = _ ∧ x3.cell? ⟨wr.heap.size, 3, none⟩ = _ from HG1.out.box _ _ _ _ _ hs3); rw [HNUM.out] at b1; have an := HAV.out _ _ _ _ _ (HBK1.out _ _ _ _ _ hs3); have a0 := HAV1.out _ _ _ _ _ hs3 0 (by omega); rw [Nat.add_zero] at a0; obtain ⟨c00, c01, c02, c03⟩ := HC0.out _ (HG1.out.below _ _ _ _ _ hs3); have a1 := HAV1.out _ _ _ _ _ hs3 1 (by omega); obtain ⟨c10, c11, c12, c13⟩ := HC1.out _ (HG1.out.below _ _ _ _ _ hs3); have a2 := HAV1.out _ _ _ _ _ hs3 2 (by omega); obtain ⟨c20, c21, c22, c23⟩ := HC2.out _ (HG1.out.below _ _ _ _ _ hs3); have HS3 := hid_mk hs3; clear hs3)
              go_still_tail 8, hmix
              go_wp2_with (go_at_call 90; refine (HW1.out x1 own3 _ _ HG1.out _ _ _ _ HS3.out.drew HA1.out).mono ?_; rintro e x2 ⟨rfl, hs2⟩; rw [HSG.out] at hs2; obtain ⟨b0, b1, b2, b3⟩ := (show x2.cell? ⟨wr.heap.size, 0, none⟩ = _ ∧ x2.cell? ⟨wr.heap.size, 1, none⟩ = _ ∧ x2.cell? ⟨wr.heap.size, 2, none⟩ = _ ∧ x2.cell? ⟨wr.heap.size, 3, none⟩ = _ from HG1.out.box _ _ _ _ _ hs2); rw [HNUM.out] at b1; have an := HAV.out _ _ _ _ _ (HBK1.out _ _ _ _ _ hs2); have a0 := HAV1.out _ _ _ _ _ hs2 0 (by omega); rw [Nat.add_zero] at a0; obtain ⟨c00, c01, c02, c03⟩ := HC0.out _ (HG1.out.below _ _ _ _ _ hs2); have a1 := HAV1.out _ _ _ _ _ hs2 1 (by omega); obtain ⟨c10, c11, c12, c13⟩ := HC1.out _ (HG1.out.below _ _ _ _ _ hs2); have a2 := HAV1.out _ _ _ _ _ hs2 2 (by omega); obtain ⟨c20, c21, c22, c23⟩ := HC2.out _ (HG1.out.below _ _ _ _ _ hs2); have k5 := hs2.code0; have HS2 := hid_mk hs2; clear hs2)
              go_still_tail 16, hmix
              go_wp2_with (go_at_call 87; refine (HBL.out x1 own3 _ _ HG1.out _ _ HS1L.out HS2.out.drew).mono ?_; rintro e x4 ⟨rfl, hs4⟩; have HS4 := hid_mk (HBK1.out _ _ _ _ _ hs4); clear hs4)
              refine ⟨⟨j + 1, by omega, by go_num, by rw [HFE.out], ?_⟩, by simp [intOf]; omega⟩
              rw [HCS.out]
              exact HS4.out
            | false =>
              go_wp2
              generalize hwx : wr.alloc (.cells #[.int .i64 D.kind, .int .i64 2, .string D.name, .slice (some ⟨gd, od, none⟩) D.len cd] 30) = wx
              have x0 : wx.cell? ⟨wr.heap.size, 0, none⟩ = some (.int .i64 D.kind) := by rw [← hwx]; simp
              have x1 : wx.cell? ⟨wr.heap.size, 1, none⟩ = some (.int .i64 2) := by rw [← hwx]; simp
              have x2 : wx.cell? ⟨wr.heap.size, 2, none⟩ = some (.string D.name) := by rw [← hwx]; simp
              have x3 : wx.cell? ⟨wr.heap.size, 3, none⟩ = some (.slice (some ⟨gd, od, none⟩) D.len cd) := by rw [← hwx]; simp
              have xa : wx.cell? ⟨ga, oa + j, none⟩ = some (.int .i64 (pj : Nat)) := by rw [← hwx]; exact (World.cell?_alloc_past _ _ _ hgaw).trans an
              have HATX := hid_mk (HATS.out (.cells #[.int .i64 D.kind, .int .i64 2, .string D.name, .slice (some ⟨gd, od, none⟩) D.len cd] 30))
              rw [hwx] at HATX
              have HWX := hid_mk hwx
              clear hwx
              go_still_tail 5, hmix
              go_wp2_with (go_at_call 36; refine HATX.out.mono ?_; rintro e x1 ⟨u1, rfl, hats, hb1⟩; rw [← HWX.out] at hats hb1; obtain ⟨own3, hs1, hback, hgo⟩ := HGO.out x1 u1 _ hb1 hats; obtain ⟨ga1, oa1, ca1, rfl, hca1, hav1⟩ := hgo.ats (by omega); have HG1 := hid_mk hgo; have HAV1 := hid_mk hav1; have HBK1 := hid_mk hback; obtain ⟨b0, b1, b2, b3⟩ := (show x1.cell? ⟨wr.heap.size, 0, none⟩ = _ ∧ x1.cell? ⟨wr.heap.size, 1, none⟩ = _ ∧ x1.cell? ⟨wr.heap.size, 2, none⟩ = _ ∧ x1.cell? ⟨wr.heap.size, 3, none⟩ = _ from HG1.out.box _ _ _ _ _ hs1); rw [HNUM.out] at b1; have an := HAV.out _ _ _ _ _ (HBK1.out _ _ _ _ _ hs1); have a0 := HAV1.out _ _ _ _ _ hs1 0 (by omega); rw [Nat.add_zero] at a0; obtain ⟨c00, c01, c02, c03⟩ := HC0.out _ (HG1.out.below _ _ _ _ _ hs1); have a1 := HAV1.out _ _ _ _ _ hs1 1 (by omega); obtain ⟨c10, c11, c12, c13⟩ := HC1.out _ (HG1.out.below _ _ _ _ _ hs1); have a2 := HAV1.out _ _ _ _ _ hs1 2 (by omega); obtain ⟨c20, c21, c22, c23⟩ := HC2.out _ (HG1.out.below _ _ _ _ _ hs1); have k5 := hs1.code0; have HS1 := hid_mk hs1; clear hs1 hback hgo hav1 hats hb1)
              go_still_tail 8, hmix
              go_wp2_with (go_at_call 90; refine (HW0.out x1 own3 _ _ HG1.out _ _ _ _ HS1.out.drew HA0.out).mono ?_; rintro e x3 ⟨rfl, hs3⟩; obtain ⟨b0, b1, b2, b3⟩ := (show x3.cell? ⟨wr.heap.size, 0, none⟩ = _ ∧ x3.cell? ⟨wr.heap.size, 1, none⟩ = _ ∧ x3.cell? ⟨wr.heap.size, 2, none⟩ = _ ∧ x3.cell? ⟨wr.heap.size, 3, none⟩ = _ from HG1.out.box _ _ _ _ _ hs3); rw [HNUM.out] at b1; have an := HAV.out _ _ _ _ _ (HBK1.out _ _ _ _ _ hs3); have a0 := HAV1.out _ _ _ _ _ hs3 0 (by omega); rw [Nat.add_zero] at a0; obtain ⟨c00, c01, c02, c03⟩ := HC0.out _ (HG1.out.below _ _ _ _ _ hs3); have a1 := HAV1.out _ _ _ _ _ hs3 1 (by omega); obtain ⟨c10, c11, c12, c13⟩ := HC1.out _ (HG1.out.below _ _ _ _ _ hs3); have a2 := HAV1.out _ _ _ _ _ hs3 2 (by omega); obtain ⟨c20, c21, c22, c23⟩ := HC2.out _ (HG1.out.below _ _ _ _ _ hs3); have HS3 := hid_mk hs3; clear hs3)
              go_still_tail 8, hmix
              go_wp2_with (go_at_call 90; refine (HW1.out x1 own3 _ _ HG1.out _ _ _ _ HS3.out.drew HA1.out).mono ?_; rintro e x2 ⟨rfl, hs2⟩; rw [HSG.out] at hs2; obtain ⟨b0, b1, b2, b3⟩ := (show x2.cell? ⟨wr.heap.size, 0, none⟩ = _ ∧ x2.cell? ⟨wr.heap.size, 1, none⟩ = _ ∧ x2.cell? ⟨wr.heap.size, 2, none⟩ = _ ∧ x2.cell? ⟨wr.heap.size, 3, none⟩ = _ from HG1.out.box _ _ _ _ _ hs2); rw [HNUM.out] at b1; have an := HAV.out _ _ _ _ _ (HBK1.out _ _ _ _ _ hs2); have a0 := HAV1.out _ _ _ _ _ hs2 0 (by omega); rw [Nat.add_zero] at a0; obtain ⟨c00, c01, c02, c03⟩ := HC0.out _ (HG1.out.below _ _ _ _ _ hs2); have a1 := HAV1.out _ _ _ _ _ hs2 1 (by omega); obtain ⟨c10, c11, c12, c13⟩ := HC1.out _ (HG1.out.below _ _ _ _ _ hs2); have a2 := HAV1.out _ _ _ _ _ hs2 2 (by omega); obtain ⟨c20, c21, c22, c23⟩ := HC2.out _ (HG1.out.below _ _ _ _ _ hs2); have k5 := hs2.code0; have HS2 := hid_mk hs2; clear hs2)
              go_still_tail 16, hmix
              go_wp2_with (go_at_call 87; refine (HBL.out x1 own3 _ _ HG1.out _ _ HS1L.out HS2.out.drew).mono ?_; rintro e x4 ⟨rfl, hs4⟩; have HS4 := hid_mk (HBK1.out _ _ _ _ _ hs4); clear hs4)
              refine ⟨⟨j + 1, by omega, by go_num, by rw [HFE.out], ?_⟩, by simp [intOf]; omega⟩
              rw [HCS.out]
              exact HS4.out
    · have HSS := hid_mk hss
      clear hss hbk
      go_wp2
      go_end0
      obtain rfl : j = T.len := by omega
      exact ⟨rfl, HB2.out _ _ _ _ _ HSS.out⟩
end Go.Proofs.YtbjianmjdadehaaGreatDoor
namespace Go.Proofs.YtbjianmjdadehaaGreatDoor
open Go.RowKit

set_option maxHeartbeats 4000000 in
set_option maxRecDepth 100000 in
theorem st_15 {T : Nd} (hk : T.kind = 15) (hrec : ∀ U : Nd, U.size < T.size → StS U) : StS T := by
  intro K w0 own0 s cx w v hS0 hE hN hfit hok hsne hlo1 hou1
  have hsz : 0 < T.size := by rw [T.size_eq]; omega
  have hS := hS0.take (by omega)
  have hco := so_15 hk hok
  have hst : (mnT K.F T).st cx s = csC K.F T ⟨cx.ret, cx.loops, cx.outs + 1⟩ (take0 s) T.len := by
    rw [stM_at K.F (by omega)]
    unfold stM
    rw [if_neg (by omega), if_neg (by omega), if_neg (by omega), if_neg (by omega), if_neg (by omega), if_neg (by omega), if_neg (by omega), if_neg (by omega), if_neg (by omega), if_pos hk]; rfl
  rw [hst]
  have hfew := hS.ok.few
  have hlt := hS.lt
  have hcl := hS.ok.cl
  have HATS := hid_mk (fun o => ats_any T (w.alloc o) _ K.lo s.2.length hN.fine (by simp; omega) (row_below (hS.box o) (Nat.le_refl _) hN.row) hN.cost (by omega))
  have HGO := hid_mk (fun (w1 : World) (u : Value) (t : TypeId) hb ha => sgo_of (w1 := w1) (T := T) (v := v) (p := s.2.length) (u := u) (t := t) hS hb ha)
  have HCA := hid_mk (fun (w1 : World) (own1 : Option Nat) (b : Nat) (u : Value) (hg : SGo K w w1 own1 b T v u s.2.length) (W : World) (hW : SS K w1 own1 (.ok (take0 s)) cx.ret cx.loops ((cx.outs : Int) + 1) W) => cases_of hco hrec hE hN hg ⟨cx.ret, cx.loops, cx.outs + 1⟩ W hW hsne hfit (show cx.loops + T.size ≤ _ by omega) (show cx.outs + 1 + T.size ≤ _ by omega))
  have ho1 : cx.outs ≤ 1099511627776 := by omega
  unfold Nd.val at HATS HGO ⊢
  rw [hk] at HATS HGO ⊢
  unfold Nd.val at HCA
  rw [hk] at HCA
  have HKD := hid_mk hk
  clear hst hS hS0 hE hN hk hok hco hsz hrec
  generalize hq : s.2.length = q at *
  have hmix : Tryz.prog.follows Departure.mixedOrders = true := by kernel_rfl
  go_enter Tryz.func68, Tryz.ntmps68
  go_wp2_with (first
    | (go_at_call 36; refine (HATS.out _).mono ?_; rintro e w1 ⟨u, rfl, hats, hb1⟩; obtain ⟨own1, hs1, hback, hgo⟩ := HGO.out w1 u _ hb1 hats; have HG := hid_mk hgo; have HBK := hid_mk hback; obtain ⟨b0, b1, b2, b3⟩ := HG.out.box _ _ _ _ _ hs1; rw [HKD.out] at b0; obtain ⟨k9, k10, k11⟩ := hs1.outs; have f11 := hs1.free 11; have HS5 := hid_mk (hs1.setOuts ((cx.outs : Int) + 1)); have HS1 := hid_mk hs1; clear hs1 hback hgo hats hb1)
    | (go_at_call 92; refine (HCA.out _ _ _ _ HG.out _ HS5.out).mono ?_; rintro e w4 ⟨rfl, hs4⟩; have hs6 := HBK.out _ _ _ _ _ hs4; obtain ⟨j9, j10, j11⟩ := hs6.outs; have k11 : w4.cell? ⟨K.cb, 11, none⟩ = some (.int .i64 ((cx.outs : Int) + 1)) := j11; have f11 := hs6.free 11; have HS6 := hid_mk (hs6.setOuts cx.outs); clear hs4 hs6 j9 j10 j11))
  go_end0
  exact ⟨rfl, HS6.out⟩

end Go.Proofs.YtbjianmjdadehaaGreatDoor
