/- The specification's checker: the type of a call. -/
import Derived.Test.YtbjianmjdadehaaGreatDoorKdC
import Derived.Deep.LoopGhost
set_option linter.unusedVariables false
namespace Go.Proofs.YtbjianmjdadehaaGreatDoor
open Go.RowKit

theorem tree_fun {F : Nd} (h : treeB F = true) {j : Nat} (hj : j < F.len) : funcB (F.kids j) = true := by
  unfold treeB at h
  simp only [Bool.and_eq_true] at h
  exact allTo_iff.1 h.2 j hj
theorem fun_len {T : Nd} (h : funcB T = true) : 1 ≤ T.len := by
  unfold funcB at h
  simp only [Bool.and_eq_true, decide_eq_true_eq] at h
  exact h.1.2

theorem SS.file {K : SK} {w0 : World} {own0 : Option Nat} {σ : CR CS} {ret loops outs : Int} {w : World} (h : SS K w0 own0 σ ret loops outs w) : w.cell? ⟨K.cb, 0, none⟩ = some (.int .i64 K.F.kind) ∧ w.cell? ⟨K.cb, 1, none⟩ = some (.int .i64 K.F.num) ∧ w.cell? ⟨K.cb, 2, none⟩ = some (.string K.F.name) ∧ w.cell? ⟨K.cb, 3, none⟩ = some K.fv := by
  obtain ⟨vv, code, place, deep, zs, vs, h1, _⟩ := h.is
  exact ⟨h1.cells.1, h1.cells.2.1, h1.cells.2.2.1, h1.cells.2.2.2.1⟩

def argsM (F T f : Nd) (n : Nat) (s : CS) : CR CS := forN (fun i => wantM (exT F (T.kids i)) (f.kids i).num) n s
theorem argsM_succ (F T f : Nd) (K : SK) (hF : K.F = F) (n : Nat) (s : CS) : wantC K (T.kids n) (f.kids n).num (argsM F T f n s) = argsM F T f (n + 1) s := by subst hF; rfl
theorem argsM_at {K : SK} {T f : Nd} {s : CS} {n : Nat} (hE : ∀ i, i < T.len → (T.kids i).eOk = true) (hn : n < T.len) (hfit : s.2.length + T.size ≤ K.N) (hN : K.N ≤ 1048576) : SAt K (T.kids n) (argsM K.F T f n (take0 s)) (kidAt T s.2.length n) := by
  have h1 := kidAt_le T s.2.length hn
  refine ⟨by omega, fun s' e => ?_⟩
  have := forN_wt (g := fun i => (T.kids i).size) (fun i hi => (ex_len K.F _ (hE i hi)).want _) (Nat.le_of_lt hn) _ _ e
  rw [take0_len] at this
  exact ⟨by unfold kidAt; omega, by omega⟩

theorem SS.boxed {K : SK} {w0 : World} {own0 : Option Nat} {σ : CR CS} {ret loops outs : Int} {w : World} (h : SS K w0 own0 σ ret loops outs w) (o : Obj) : ∃ own, SS K (w.alloc o) own σ ret loops outs (w.alloc o) ∧ (∀ σ' r' l' o' W, SS K (w.alloc o) own σ' r' l' o' W → SS K w0 own0 σ' r' l' o' W) ∧
    ∀ σ' r' l' o' W, SS K (w.alloc o) own σ' r' l' o' W → W.heap[w.heap.size]? = some o := by
  obtain ⟨vv, code, place, deep, zs, vs, h1, h2, h3⟩ := h.is
  have hb : Below w.heap.size w (w.alloc o) := (Below.refl _ _).alloc (Nat.le_refl _) _
  have hlt := h1.lt
  obtain ⟨own, g1, g2, g3, g4⟩ := (h.alloc o).restart
  refine ⟨own, g1, g4, fun σ' r' l' o' W hW => ?_⟩
  have hown : ∀ k, own = some k → k < w.heap.size := by
    intro k hk
    obtain ⟨vv', c', p', d', z', s', q1, q2, q3⟩ := g1.is
    rcases q3 with q3 | ⟨i, q3, q4⟩
    · have e1 := q1.blk
      rw [Below.heap_alloc w o K.cb hlt.1, h1.blk] at e1
      have e3 : vv' = vv := by
        injection e1 with e1
        injection e1 with e1
        have := congrArg (fun a : Array Value => a[7]?) e1
        simpa [SK.cells] using this.symm
      rw [e3, hk] at q3
      exact (h1.var.lt k q3).2
    · have := (q1.var.lt i q3).2; omega
  rw [hW.keep (k := w.heap.size) (by simp) (by omega) (by omega) (fun e => by have := hown _ e.symm; omega)]
  exact heap_alloc_new w o

set_option maxHeartbeats 4000000 in
set_option maxRecDepth 100000 in
theorem ty_25a {T : Nd} (hk : T.kind = 25) (K : SK) (w0 : World) (own0 : Option Nat) (s : CS) (ret loops outs : Int) (w : World) (v : Value) (hS : SS K w0 own0 (.ok (take0 s)) ret loops outs w) (hE : SEnv K w) (hN : SNd K w T v) (hfit : s.2.length + T.size ≤ K.N) (hok : T.eOk = true) (hno : findF K.F T.name = none) :
    Calls Tryz.prog 102 #[.pointer (some ⟨K.cb, 0, none⟩), T.val v, .int .i64 s.2.length] w fun e w' => e = .returned (.int .i64 0) ∧ SS K w0 own0 (.error (5, s.2.length)) ret loops outs w' := by
  have hfew := hS.ok.few
  have hlt := hS.lt
  have hcl := hS.ok.cl
  have HATS := hid_mk (fun o => ats_any T (w.alloc o) v K.lo s.2.length hN.fine (by have := hS.ok.cl; simp; omega) (row_below (hS.box o) (Nat.le_refl _) hN.row) hN.cost (by omega))
  have HGO := hid_mk (fun (w1 : World) (u : Value) (t : TypeId) hb ha => sgo_of (w1 := w1) (T := T) (v := v) (p := s.2.length) (u := u) (t := t) hS hb ha)
  have HF := hid_mk (fun W (hb : Below K.lo w W) (hz : K.lo ≤ W.heap.size) => find_any K.F W K.fv K.lo T.name hE.fine hz (row_below hb (Nat.le_refl _) hE.row))
  have HNO : Hid (findI K.F T.name = -1) := by unfold Hid findI; rw [hno]
  have HKD := hid_mk hk
  unfold Nd.val at *
  rw [hk] at HATS HGO ⊢
  clear hS hE hN hk hno
  generalize hq : s.2.length = q at *
  have hmix : Tryz.prog.follows Departure.mixedOrders = true := by kernel_rfl
  go_enter Tryz.func102, Tryz.ntmps102
  go_wp2_with (go_at_call 36; refine (HATS.out _).mono ?_; rintro e w1 ⟨u, rfl, hats, hb1⟩; obtain ⟨own1, hs1, hback, hgo⟩ := HGO.out w1 u _ hb1 hats; obtain ⟨b0, b1, b2, b3⟩ := hgo.box _ _ _ _ _ hs1; rw [HKD.out] at b0; obtain ⟨x0, x1, x2, x3⟩ := hs1.file; obtain ⟨y0, y1⟩ := hs1.lt; have HG := hid_mk hgo; have HS1 := hid_mk hs1; have HBK := hid_mk hback; clear hb1 hats hs1 hgo hback)
  go_still_tail 6, hmix
  go_wp2_with (first
    | (go_at_call 37; refine (HF.out _ (HG.out.below _ _ _ _ _ HS1.out.drew) (by have : K.cb < w1.heap.size := y0; show K.lo ≤ w1.heap.size; omega)).mono ?_; rw [HNO.out]; rintro e w2 ⟨rfl, hb2⟩; have hs2 := HS1.out.drew.calm hb2; obtain ⟨b0, b1, b2, b3⟩ := HG.out.box _ _ _ _ _ hs2; rw [HKD.out] at b0; obtain ⟨x0, x1, x2, x3⟩ := hs2.file; obtain ⟨z0, z1⟩ := hs2.lt; have z3 := World.block_lt_of_cell? w2 ⟨w.heap.size, 3, none⟩ b3; dsimp only at z3; have HS2 := hid_mk hs2; clear hb2 hs2)
    | (go_at_call 38; refine (fail_any HS2.out 5 (by decide) q).mono ?_; rintro e w3 ⟨rfl, hs3⟩; have HS3 := hid_mk (HBK.out _ _ _ _ _ hs3); clear hs3))
  go_ret
  exact ⟨rfl, HS3.out⟩

set_option maxHeartbeats 4000000 in
set_option maxRecDepth 100000 in
theorem ty_25b {T : Nd} (hk : T.kind = 25) (K : SK) (w0 : World) (own0 : Option Nat) (s : CS) (ret loops outs : Int) (w : World) (v : Value) (hS : SS K w0 own0 (.ok (take0 s)) ret loops outs w) (hE : SEnv K w) (hN : SNd K w T v) (hfit : s.2.length + T.size ≤ K.N) (hok : T.eOk = true) (j : Nat) (hj : findF K.F T.name = some j) (hcnt : T.len + 1 ≠ (K.F.kids j).len) :
    Calls Tryz.prog 102 #[.pointer (some ⟨K.cb, 0, none⟩), T.val v, .int .i64 s.2.length] w fun e w' => e = .returned (.int .i64 0) ∧ SS K w0 own0 (.error (8, s.2.length)) ret loops outs w' := by
  have hfew := hS.ok.few
  have hlt := hS.lt
  have hcl := hS.ok.cl
  have HATS := hid_mk (fun o => ats_any T (w.alloc o) v K.lo s.2.length hN.fine (by have := hS.ok.cl; simp; omega) (row_below (hS.box o) (Nat.le_refl _) hN.row) hN.cost (by omega))
  have HGO := hid_mk (fun (w1 : World) (u : Value) (t : TypeId) hb ha => sgo_of (w1 := w1) (T := T) (v := v) (p := s.2.length) (u := u) (t := t) hS hb ha)
  have HF := hid_mk (fun W (hb : Below K.lo w W) (hz : K.lo ≤ W.heap.size) => find_any K.F W K.fv K.lo T.name hE.fine hz (row_below hb (Nat.le_refl _) hE.row))
  have hjl := (findTo_spec hj).1
  obtain ⟨gF, oF, cF, hfv, hgF, hcF, hkF⟩ := ck_kid hE.row (by omega)
  obtain ⟨uf, hcf, hrf⟩ := hkF j hjl
  have hfl := fun_len (tree_fun hE.ok hjl)
  have hffine := Nd.fine_len (Nd.fine_kid hE.fine hjl)
  obtain ⟨af, cf, huf, hcpf, hqf⟩ := row_eq.1 hrf
  have HQF := hid_mk hqf
  clear hqf
  subst huf
  have HCF := hid_mk hcf
  have HNO : Hid (findI K.F T.name = j) := by unfold Hid findI; rw [show findF K.F T.name = some j from hj]
  have HKD := hid_mk hk
  have HFV := hid_mk hfv
  have hTl := T.fine_len hN.fine
  obtain ⟨a, cap, hv, hcap, hq0⟩ := row_eq.1 hN.row
  have HQ0 := hid_mk hq0
  clear hq0
  subst hv
  have hcnt' : ((T.len : Int) == ((K.F.kids j).len : Int) - 1) = false := beq_eq_false_iff_ne.2 (by omega)
  have hjF : (j : Int) < (K.F.len : Int) := by omega
  unfold Nd.val at *
  rw [hk] at HATS HGO ⊢
  clear hS hE hN hk hj hcf hkF hrf hfv
  generalize hq : s.2.length = q at *
  have hmix : Tryz.prog.follows Departure.mixedOrders = true := by kernel_rfl
  go_enter Tryz.func102, Tryz.ntmps102
  go_wp2_with (go_at_call 36; refine (HATS.out _).mono ?_; rintro e w1 ⟨u, rfl, hats, hb1⟩; obtain ⟨own1, hs1, hback, hgo⟩ := HGO.out w1 u _ hb1 hats; obtain ⟨b0, b1, b2, b3⟩ := hgo.box _ _ _ _ _ hs1; rw [HKD.out] at b0; obtain ⟨x0, x1, x2, x3⟩ := hs1.file; obtain ⟨y0, y1⟩ := hs1.lt; have HG := hid_mk hgo; have HS1 := hid_mk hs1; have HBK := hid_mk hback; clear hb1 hats hs1 hgo hback)
  go_still_tail 6, hmix
  go_wp2_with (first
    | (go_at_call 37; refine (HF.out _ (HG.out.below _ _ _ _ _ HS1.out.drew) (by have : K.cb < w1.heap.size := y0; show K.lo ≤ w1.heap.size; omega)).mono ?_; rw [HNO.out]; rintro e w2 ⟨rfl, hb2⟩; have hs2 := HS1.out.drew.calm hb2; obtain ⟨b0, b1, b2, b3⟩ := HG.out.box _ _ _ _ _ hs2; rw [HKD.out] at b0; obtain ⟨x0, x1, x2, x3⟩ := hs2.file; obtain ⟨z0, z1⟩ := hs2.lt; have z3 := World.block_lt_of_cell? w2 ⟨w.heap.size, 3, none⟩ b3; dsimp only at z3; rw [HFV.out] at x3; obtain ⟨f0, f1, f2, f3⟩ := HCF.out _ (HG.out.below _ _ _ _ _ hs2); have HS2 := hid_mk hs2; clear hb2 hs2)
    | (go_at_call 38; refine (fail_any (HS2.out.alloc _) 8 (by decide) q).mono ?_; rintro e w3 ⟨rfl, hs3⟩; have HS3 := hid_mk (HBK.out _ _ _ _ _ hs3); clear hs3))
  go_ret
  exact ⟨rfl, HS3.out⟩

set_option maxHeartbeats 4000000 in
set_option maxRecDepth 100000 in
theorem ty_25c {T : Nd} (hk : T.kind = 25) (K : SK) (w0 : World) (own0 : Option Nat) (s : CS) (ret loops outs : Int) (w : World) (v : Value) (hS : SS K w0 own0 (.ok (take0 s)) ret loops outs w) (hE : SEnv K w) (hN : SNd K w T v) (hfit : s.2.length + T.size ≤ K.N) (hok : T.eOk = true) (j : Nat) (hj : findF K.F T.name = some j) (hcnt : T.len + 1 = (K.F.kids j).len) (ih : ∀ i, i < T.len → ExS (T.kids i)) :
    Calls Tryz.prog 102 #[.pointer (some ⟨K.cb, 0, none⟩), T.val v, .int .i64 s.2.length] w fun e w' => e = .returned (.int .i64 (K.F.kids j).num) ∧ SS K w0 own0 (argsM K.F T (K.F.kids j) T.len (take0 s)) ret loops outs w' := by
  have hfew := hS.ok.few
  have hlt := hS.lt
  have hcl := hS.ok.cl
  have HATS := hid_mk (fun o => ats_any T (w.alloc o) v K.lo s.2.length hN.fine (by have := hS.ok.cl; simp; omega) (row_below (hS.box o) (Nat.le_refl _) hN.row) hN.cost (by omega))
  have HGO := hid_mk (fun (w1 : World) (u : Value) (t : TypeId) hb ha => sgo_of (w1 := w1) (T := T) (v := v) (p := s.2.length) (u := u) (t := t) hS hb ha)
  have HF := hid_mk (fun W (hb : Below K.lo w W) (hz : K.lo ≤ W.heap.size) => find_any K.F W K.fv K.lo T.name hE.fine hz (row_below hb (Nat.le_refl _) hE.row))
  have hjl := (findTo_spec hj).1
  obtain ⟨gF, oF, cF, hfv, hgF, hcF, hkF⟩ := ck_kid hE.row (by omega)
  obtain ⟨uf, hcf, hrf⟩ := hkF j hjl
  have hfl := fun_len (tree_fun hE.ok hjl)
  have hffine := Nd.fine_len (Nd.fine_kid hE.fine hjl)
  obtain ⟨af, cf, huf, hcpf, hqf⟩ := row_eq.1 hrf
  have HQF := hid_mk hqf
  clear hqf
  subst huf
  have HCF := hid_mk hcf
  have HNO : Hid (findI K.F T.name = j) := by unfold Hid findI; rw [show findF K.F T.name = some j from hj]
  have HKD := hid_mk hk
  have HFV := hid_mk hfv
  have hTl := T.fine_len hN.fine
  obtain ⟨a, cap, hv, hcap, hq0⟩ := row_eq.1 hN.row
  have HQ0 := hid_mk hq0
  clear hq0
  subst hv
  have hcnt' : ((T.len : Int) == ((K.F.kids j).len : Int) - 1) = true := beq_iff_eq.2 (by omega)
  have hcnt2 : ((T.len : Int) != ((K.F.kids j).len : Int) - 1) = false := by simp only [bne, hcnt', Bool.not_true]
  have hcl' : T.len < (K.F.kids j).len := by omega
  have hjF : (j : Int) < (K.F.len : Int) := by omega
  have hj0 : decide ((j : Int) < 0) = false := by simp
  unfold Nd.val at *
  rw [hk] at HATS HGO ⊢
  have HCN := hid_mk hcnt
  have HEE := hid_mk (eo_25 HKD.out hok)
  have HIH := hid_mk ih
  have HKID := hid_mk (fun (h0 : T.len ≠ 0) => ck_kid hN.row h0)
  have HAT := hid_mk (fun n (hn : n < T.len) => argsM_at (K := K) (f := K.F.kids j) HEE.out hn hfit hfew)
  have HEV := hid_mk hE
  have HND := hid_mk hN
  clear hS hE hN hk hj hcf hkF hrf hfv hcnt ih
  generalize hq : s.2.length = q at *
  have hmix : Tryz.prog.follows Departure.mixedOrders = true := by kernel_rfl
  go_enter Tryz.func102, Tryz.ntmps102
  go_wp2_with (go_at_call 36; refine (HATS.out _).mono ?_; rintro e w1 ⟨u, rfl, hats, hb1⟩; obtain ⟨own1, hs1, hback, hgo⟩ := HGO.out w1 u _ hb1 hats; obtain ⟨b0, b1, b2, b3⟩ := hgo.box _ _ _ _ _ hs1; rw [HKD.out] at b0; obtain ⟨x0, x1, x2, x3⟩ := hs1.file; obtain ⟨y0, y1⟩ := hs1.lt; have HG := hid_mk hgo; have HS1 := hid_mk hs1; have HBK := hid_mk hback; clear hb1 hats hs1 hgo hback)
  go_still_tail 6, hmix
  go_wp2_with (first
    | (go_at_call 37; refine (HF.out _ (HG.out.below _ _ _ _ _ HS1.out.drew) (by have : K.cb < w1.heap.size := y0; show K.lo ≤ w1.heap.size; omega)).mono ?_; rw [HNO.out]; rintro e w2 ⟨rfl, hb2⟩; have hs2 := HS1.out.drew.calm hb2; obtain ⟨b0, b1, b2, b3⟩ := HG.out.box _ _ _ _ _ hs2; rw [HKD.out] at b0; obtain ⟨x0, x1, x2, x3⟩ := hs2.file; obtain ⟨z0, z1⟩ := hs2.lt; have z3 := World.block_lt_of_cell? w2 ⟨w.heap.size, 3, none⟩ b3; dsimp only at z3; rw [HFV.out] at x3; obtain ⟨f0, f1, f2, f3⟩ := HCF.out _ (HG.out.below _ _ _ _ _ hs2); have HS2 := hid_mk hs2; clear hb2 hs2))
  obtain ⟨own2, hs3, hback2, hbox⟩ := HS2.out.boxed (.cells #[.int .i64 (K.F.kids j).kind, .int .i64 (K.F.kids j).num, .string (K.F.kids j).name, .slice af (K.F.kids j).len cf] 30)
  have HS3 := hid_mk hs3
  have HB2 := hid_mk hback2
  have HBX := hid_mk hbox
  clear hs3 hback2 hbox
  go_loopg [11] T.len (fun gk i wr => ∃ n : Nat, gk = T.len - n ∧ n ≤ T.len ∧ i = .int .i64 n ∧ SS K (w2.alloc (.cells #[.int .i64 (K.F.kids j).kind, .int .i64 (K.F.kids j).num, .string (K.F.kids j).name, .slice af (K.F.kids j).len cf] 30)) own2 (argsM K.F T (K.F.kids j) n (take0 s)) ret loops outs wr)
  case atStart => exact ⟨0, by omega, Nat.zero_le _, rfl, HS3.out⟩
  case round =>
    obtain ⟨n, hgk, hn, rfl, hss⟩ := hrel
    have HGK := hid_mk hgk
    clear hgk
    have hbk := HB2.out _ _ _ _ _ hss
    obtain ⟨d0, d1, d2, d3⟩ := HG.out.box _ _ _ _ _ hbk
    have hfb := HBX.out _ _ _ _ _ hss
    have e0 : wr.cell? ⟨w2.heap.size, 0, none⟩ = some (.int .i64 (K.F.kids j).kind) := by simp [World.cell?, hfb]
    have e1 : wr.cell? ⟨w2.heap.size, 1, none⟩ = some (.int .i64 (K.F.kids j).num) := by simp [World.cell?, hfb]
    have e3 : wr.cell? ⟨w2.heap.size, 3, none⟩ = some (.slice af (K.F.kids j).len cf) := by simp [World.cell?, hfb]
    have hlo := HG.out.below _ _ _ _ _ hbk
    have HSS := hid_mk hss
    have HBK2 := hid_mk hbk
    have HLO := hid_mk hlo
    clear hfb hss hbk hlo
    by_cases hlt : n < T.len
    · obtain ⟨g, off, cap', hv', hgl, hcap', hkid⟩ := HKID.out (by omega)
      injection hv' with ev1 ev2 ev3
      subst ev1
      subst ev3
      obtain ⟨ga, oa, ca, hu', hca, hav⟩ := HG.out.ats (by omega)
      subst hu'
      obtain ⟨un, hcn, hrn⟩ := hkid n hlt
      obtain ⟨c0, c1, c2, c3⟩ := hcn _ HLO.out
      have an := hav _ _ _ _ _ HBK2.out n hlt
      have hqf := HQF.out
      rcases hqf with h0 | ⟨gf, of, haf, _, hgf, hpf⟩
      · omega
      subst haf
      obtain ⟨up, p0, p1, p2, p3, _⟩ := hpf n (by omega)
      have p1' := (HLO.out.cell (p := ⟨gf, of + n * 4 + 1, none⟩) hgf).trans p1
      have HWN := hid_mk (want_of (HIH.out n hlt) K _ own2 _ ret loops outs wr.drew un (kidAt T q n) ((K.F.kids j).kids n).num HSS.out.drew (HEV.out.later HLO.out.drew) ((HND.out.kid hlt hrn).later HLO.out.drew) (HAT.out n hlt) (HEE.out n hlt))
      unfold Nd.val at HWN
      have hni : (n : Int) < (T.len : Int) := by omega
      have hnf : (n : Int) < ((K.F.kids j).len : Int) := by omega
      clear hcn hrn hav hpf p0 p1 p2 p3 hkid
      go_wp2
      go_still_tail 16, hmix
      go_wp2_with (go_at_call 90; refine HWN.out.mono ?_; rintro e w5 ⟨rfl, hs5⟩; have HS5 := hid_mk hs5; clear hs5)
      go_roundg (T.len - (n + 1))
      case rel =>
        refine ⟨n + 1, rfl, by omega, by go_num, ?_⟩
        rw [← argsM_succ K.F T (K.F.kids j) K rfl n (take0 s)]
        exact HS5.out
      case measure => have := HGK.out; omega
    · go_wp2
      go_ret
      obtain rfl : n = T.len := by omega
      exact ⟨rfl, HBK.out _ _ _ _ _ HBK2.out⟩

theorem ty_25 {T : Nd} (hk : T.kind = 25) (ih : ∀ i, i < T.len → ExS (T.kids i)) : TyS T := by
  intro K w0 own0 s ret loops outs w v hS hE hN hfit hok
  have hty : typeM K.F T.kind T.name T.len (fun i => exT K.F (T.kids i)) (take0 s) s.2.length = (match findF K.F T.name with
    | none => .error (5, s.2.length)
    | some j => if T.len + 1 = (K.F.kids j).len then CR.bind (argsM K.F T (K.F.kids j) T.len (take0 s)) fun s1 => .ok ((K.F.kids j).num, s1) else .error (8, s.2.length)) := by
    unfold typeM
    rw [if_neg (by omega), if_neg (by omega), if_neg (by omega), if_pos hk]; rfl
  rw [hty]
  cases hj : findF K.F T.name with
  | none =>
    refine (ty_25a hk K w0 own0 s ret loops outs w v hS hE hN hfit hok hj).mono ?_
    rintro e w' ⟨rfl, h⟩
    exact ⟨0, rfl, fun r h => (by cases h), h⟩
  | some j =>
    dsimp only
    by_cases hc : T.len + 1 = (K.F.kids j).len
    · rw [if_pos hc]
      refine (ty_25c hk K w0 own0 s ret loops outs w v hS hE hN hfit hok j hj hc ih).mono ?_
      rintro e w' ⟨rfl, h⟩
      exact ⟨_, rfl, ty_end.1, by rw [ty_end.2]; exact h⟩
    · rw [if_neg hc]
      refine (ty_25b hk K w0 own0 s ret loops outs w v hS hE hN hfit hok j hj hc).mono ?_
      rintro e w' ⟨rfl, h⟩
      exact ⟨0, rfl, fun r h => (by cases h), h⟩
end Go.Proofs.YtbjianmjdadehaaGreatDoor
