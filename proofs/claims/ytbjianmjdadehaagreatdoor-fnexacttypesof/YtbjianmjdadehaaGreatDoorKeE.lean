/- The program's checker: a call. -/
import Derived.Test.YtbjianmjdadehaaGreatDoorKeD
set_option linter.unusedVariables false
namespace Go.Proofs.YtbjianmjdadehaaGreatDoor
open Go.RowKit

set_option maxHeartbeats 2000000 in
set_option maxRecDepth 100000 in
theorem par_any (T : Nd) (w : World) (a : Option Addr) (cap : Nat) (h1 : 1 ≤ T.len) (hn : T.len ≤ 9223372036854775807) (hc : T.len ≤ cap) :
    Calls Tryz.prog 45 #[.agg #[.int .i64 T.kind, .int .i64 T.num, .string T.name, .slice a T.len cap]] w fun e w' => e = .returned (.slice a (T.len - 1) cap) ∧ Below w.heap.size w w' := by
  have HB0 := hid_mk (fun o => (Below.refl w.heap.size w).alloc (Nat.le_refl _) o)
  generalize T.len = L at *
  obtain ⟨m, rfl⟩ : ∃ m, L = m + 1 := ⟨L - 1, by omega⟩
  rw [Nat.add_sub_cancel]
  have hcI : (m : Int) ≤ (cap : Int) := by omega
  have hcN : m ≤ cap := by omega
  go_enter Tryz.func45, Tryz.ntmps45
  go_wp2
  go_ret
  exact ⟨rfl, HB0.out _⟩
def ICaS (T : Nd) : Prop := ∀ (K : IK) (w0 : World) (O : Nat → Prop) (s : CS) (ret loops sels : Int) (w : World) (v : Value), IS K w0 O (take0 s) ret loops sels w → IEnv K w → INd K w T v → s.2.length + T.size ≤ K.N → T.kind = 25 → T.eOk = true →
  Calls Tryz.prog 128 #[.pointer (some ⟨K.cb, 0, none⟩), T.val v, .int .i64 s.2.length] w (Ans K w (typeM K.F T.kind T.name T.len (fun i => exT K.F (T.kids i)) (take0 s) s.2.length) fun r e w' => e = .returned (.int .i64 r.1) ∧ IS K w0 O r.2 ret loops sels w')
theorem zeroN (w : World) : (zeroValue 30).run Tryz.prog w = .ok (.agg #[.int .i64 0, .int .i64 0, .string ⟨#[]⟩, .slice none 0 0]) w := by kernel_rfl
theorem IS.funs {K : IK} {w0 : World} {O : Nat → Prop} {s : CS} {ret loops sels : Int} {w : World} (h : IS K w0 O s ret loops sels w) {t : ByteArray} (ht : t.size ≤ maxLen) :
    (Instr.lookup 71 (.map (some K.mf)) (.string t) true).run Tryz.prog w = .ok (.tuple #[((findF K.F t).map fun j => Value.agg #[.int .i64 (K.F.kids j).kind, .int .i64 (K.F.kids j).num, .string (K.F.kids j).name, K.uf j]).getD (.agg #[.int .i64 0, .int .i64 0, .string ⟨#[]⟩, .slice none 0 0]), .bool (findF K.F t).isSome]) w := by
  have := h.fn.lookOk (t := 71) Tryz.underlying71 (zeroN w) ht
  rw [this]
  unfold IK.fns findF
  simp
theorem IS.fcell {K : IK} {w0 : World} {O : Nat → Prop} {s : CS} {ret loops sels : Int} {w : World} (h : IS K w0 O s ret loops sels w) : w.cell? ⟨K.cb, 0, none⟩ = some (.map (some K.mf)) := by
  obtain ⟨sv, tv, bs, h1, _⟩ := h.is
  exact h1.cells.1
set_option maxHeartbeats 4000000 in
set_option maxRecDepth 100000 in
theorem ica_a {T : Nd} (K : IK) (w0 : World) (O : Nat → Prop) (s : CS) (ret loops sels : Int) (w : World) (v : Value) (hS : IS K w0 O (take0 s) ret loops sels w) (hN : INd K w T v) (hno : findF K.F T.name = none) :
    Calls Tryz.prog 128 #[.pointer (some ⟨K.cb, 0, none⟩), T.val v, .int .i64 s.2.length] w fun e w' => e = .panicked [{ v := fltV (5, s.2.length), recovered := false }] ∧ Below K.lo w w' := by
  obtain ⟨a, cap, hv, hcap, hq⟩ := row_eq.1 hN.row
  subst hv
  have hlk0 := (hS.alloc (.cells #[.int .i64 T.kind, .int .i64 T.num, .string T.name, .slice a T.len cap] 30)).drew.funs (name_max hN.fine)
  have hlk1 := ((hS.alloc (.cells #[.int .i64 T.kind, .int .i64 T.num, .string T.name, .slice a T.len cap] 30)).alloc (.cells #[.int .i64 0, .int .i64 0, .string ⟨#[]⟩, .slice none 0 0] 30)).drew.funs (name_max hN.fine)
  rw [hno] at hlk0 hlk1
  simp only [Option.map_none, Option.getD_none, Option.isSome_none] at hlk0 hlk1
  have k0 := hS.fcell
  have hlt := hS.lt
  have HB := hid_mk (fun o o' => (hS.box o).trans ((hS.alloc o).box o'))
  unfold Nd.val
  have hnb : ¬ K.cb = w.heap.size := by omega
  have hnb1 : ¬ K.cb = w.heap.size + 1 := by omega
  have hcb1 : K.cb < w.heap.size + 1 := by omega
  have k0' := (hS.alloc (.cells #[.int .i64 T.kind, .int .i64 T.num, .string T.name, .slice a T.len cap] 30)).fcell
  clear hS hN hq hno
  go_enter Tryz.func128, Tryz.ntmps128
  go_wp2
  go_region_held3 (fun W => W.cell? ⟨K.cb, 0, none⟩ = some (.map (some K.mf)) ∧ W.cell? ⟨w.heap.size, 2, none⟩ = some (.string T.name)) (go_keep) (fail)
  all_goals go_wp2
  all_goals exact ⟨rfl, rfl, (HB.out _ _).drew⟩
set_option maxHeartbeats 4000000 in
set_option maxRecDepth 100000 in
theorem ica_b {T : Nd} (K : IK) (w0 : World) (O : Nat → Prop) (s : CS) (ret loops sels : Int) (w : World) (v : Value) (hS : IS K w0 O (take0 s) ret loops sels w) (hE : IEnv K w) (hN : INd K w T v) (j : Nat) (hj : findF K.F T.name = some j) (hcnt : T.len + 1 ≠ (K.F.kids j).len) :
    Calls Tryz.prog 128 #[.pointer (some ⟨K.cb, 0, none⟩), T.val v, .int .i64 s.2.length] w fun e w' => e = .panicked [{ v := fltV (8, s.2.length), recovered := false }] ∧ Below K.lo w w' := by
  obtain ⟨a, cap, hv, hcap, hq⟩ := row_eq.1 hN.row
  subst hv
  have hjl := (findTo_spec hj).1
  have hrf := hE.fun' j hjl
  have hfl := fun_len (tree_fun hE.ok hjl)
  have hffine := Nd.fine_len (Nd.fine_kid hE.fine hjl)
  obtain ⟨af, cf, huf, hcpf, hqf⟩ := row_eq.1 hrf
  have hlk0 := (hS.alloc (.cells #[.int .i64 T.kind, .int .i64 T.num, .string T.name, .slice a T.len cap] 30)).drew.funs (name_max hN.fine)
  have hlk1 := ((hS.alloc (.cells #[.int .i64 T.kind, .int .i64 T.num, .string T.name, .slice a T.len cap] 30)).alloc (.cells #[.int .i64 0, .int .i64 0, .string ⟨#[]⟩, .slice none 0 0] 30)).drew.funs (name_max hN.fine)
  rw [hj] at hlk0 hlk1
  simp only [Option.map_some, Option.getD_some, Option.isSome_some] at hlk0 hlk1
  rw [huf] at hlk0 hlk1
  have k0 := hS.fcell
  have hlt := hS.lt
  have HB := hid_mk (fun o o' => (hS.box o).trans ((hS.alloc o).box o'))
  have hn := T.fine_len hN.fine
  unfold Nd.val
  have hnb : ¬ K.cb = w.heap.size := by omega
  have hnb1 : ¬ K.cb = w.heap.size + 1 := by omega
  have hcb1 : K.cb < w.heap.size + 1 := by omega
  have k0' := (hS.alloc (.cells #[.int .i64 T.kind, .int .i64 T.num, .string T.name, .slice a T.len cap] 30)).fcell
  have hlo : K.lo ≤ w.heap.size := by have := hS.ok.cl; omega
  have HPA := hid_mk (fun W => par_any (K.F.kids j) W af cf hfl hffine hcpf.1)
  have hcnt' : ((T.len : Int) == (((K.F.kids j).len - 1 : Nat) : Int)) = false := beq_eq_false_iff_ne.2 (by omega)
  have hcnt2 : ((T.len : Int) != (((K.F.kids j).len - 1 : Nat) : Int)) = true := by simp only [bne, hcnt']; rfl
  clear hS hN hq hj hE hrf hqf huf hjl
  generalize K.F.kids j = G at *
  generalize G.len - 1 = gl at *
  go_enter Tryz.func128, Tryz.ntmps128
  go_wp2
  go_region_held3 (fun W => W.cell? ⟨K.cb, 0, none⟩ = some (.map (some K.mf)) ∧ W.cell? ⟨w.heap.size, 2, none⟩ = some (.string T.name)) (go_keep) (fail)
  all_goals go_wp2_with (first
    | (go_at_call 45; refine (HPA.out _).mono ?_; rintro e w2 ⟨rfl, hb2⟩; have b3 : w2.cell? ⟨w.heap.size, 3, none⟩ = some (.slice a T.len cap) := ((hb2.cell (p := ⟨w.heap.size, 3, none⟩) (by first | (simp [go_sem]; done) | (simp [go_sem]; omega))).trans (by simp [go_sem]))))
  all_goals exact ⟨rfl, rfl, (HB.out _ _).drew.trans (hb2.mono (by first | (simp [go_sem]; done) | (simp [go_sem]; omega)))⟩
set_option maxHeartbeats 8000000 in
set_option maxRecDepth 100000 in
theorem ica_c {T : Nd} (ih : ∀ i, i < T.len → IExS (T.kids i)) (K : IK) (w0 : World) (O : Nat → Prop) (s : CS) (ret loops sels : Int) (w : World) (v : Value) (hS : IS K w0 O (take0 s) ret loops sels w) (hE : IEnv K w) (hN : INd K w T v) (hfit : s.2.length + T.size ≤ K.N) (he : ∀ i, i < T.len → (T.kids i).eOk = true) (j : Nat) (hj : findF K.F T.name = some j) (hcnt : T.len + 1 = (K.F.kids j).len) :
    Calls Tryz.prog 128 #[.pointer (some ⟨K.cb, 0, none⟩), T.val v, .int .i64 s.2.length] w (Ans K w (CR.bind (forN (fun i => wantM (exT K.F (T.kids i)) ((K.F.kids j).kids i).num) T.len (take0 s)) fun s1 => .ok ((K.F.kids j).num, s1)) fun r e w' => e = .returned (.int .i64 r.1) ∧ IS K w0 O r.2 ret loops sels w') := by
  obtain ⟨a, cap, hv, hcap, hq⟩ := row_eq.1 hN.row
  subst hv
  have hjl := (findTo_spec hj).1
  have hrf := hE.fun' j hjl
  have hfl := fun_len (tree_fun hE.ok hjl)
  have hffine := Nd.fine_len (Nd.fine_kid hE.fine hjl)
  obtain ⟨af, cf, huf, hcpf, hqf⟩ := row_eq.1 hrf
  have hlk0 := (hS.alloc (.cells #[.int .i64 T.kind, .int .i64 T.num, .string T.name, .slice a T.len cap] 30)).drew.funs (name_max hN.fine)
  have hlk1 := ((hS.alloc (.cells #[.int .i64 T.kind, .int .i64 T.num, .string T.name, .slice a T.len cap] 30)).alloc (.cells #[.int .i64 0, .int .i64 0, .string ⟨#[]⟩, .slice none 0 0] 30)).drew.funs (name_max hN.fine)
  rw [hj] at hlk0 hlk1
  simp only [Option.map_some, Option.getD_some, Option.isSome_some] at hlk0 hlk1
  rw [huf] at hlk0 hlk1
  rw [huf] at hrf
  have k0 := hS.fcell
  have hlt := hS.lt
  have hn := T.fine_len hN.fine
  obtain ⟨O1, hs1, hback1, hbox1, hbl1⟩ := hS.boxed (.cells #[.int .i64 T.kind, .int .i64 T.num, .string T.name, .slice a T.len cap] 30)
  obtain ⟨O2, hs2, hback2, hbox2, hbl2⟩ := hs1.boxed (.cells #[.int .i64 (K.F.kids j).kind, .int .i64 (K.F.kids j).num, .string (K.F.kids j).name, .slice af (K.F.kids j).len cf] 30)
  have HBX : Hid (∀ s' r' l' o' W, IS K ((w.alloc (.cells #[.int .i64 T.kind, .int .i64 T.num, .string T.name, .slice a T.len cap] 30)).alloc (.cells #[.int .i64 (K.F.kids j).kind, .int .i64 (K.F.kids j).num, .string (K.F.kids j).name, .slice af (K.F.kids j).len cf] 30)) O2 s' r' l' o' W → W.heap[w.heap.size + 1]? = some (.cells #[.int .i64 (K.F.kids j).kind, .int .i64 (K.F.kids j).num, .string (K.F.kids j).name, .slice af (K.F.kids j).len cf] 30)) := fun s' r' l' o' W h => by have := hbox2 s' r' l' o' W h; simpa using this
  have HBX1 := hid_mk (fun s' r' l' o' W (h : IS K ((w.alloc (.cells #[.int .i64 T.kind, .int .i64 T.num, .string T.name, .slice a T.len cap] 30)).alloc (.cells #[.int .i64 (K.F.kids j).kind, .int .i64 (K.F.kids j).num, .string (K.F.kids j).name, .slice af (K.F.kids j).len cf] 30)) O2 s' r' l' o' W) => hbox1 _ _ _ _ _ (hback2 s' r' l' o' W h))
  have HBL := hid_mk (fun s' r' l' o' W (h : IS K ((w.alloc (.cells #[.int .i64 T.kind, .int .i64 T.num, .string T.name, .slice a T.len cap] 30)).alloc (.cells #[.int .i64 (K.F.kids j).kind, .int .i64 (K.F.kids j).num, .string (K.F.kids j).name, .slice af (K.F.kids j).len cf] 30)) O2 s' r' l' o' W) => hbl1 _ _ _ _ _ (hback2 s' r' l' o' W h))
  have HB1 := hid_mk (fun s' r' l' o' W (h : IS K ((w.alloc (.cells #[.int .i64 T.kind, .int .i64 T.num, .string T.name, .slice a T.len cap] 30)).alloc (.cells #[.int .i64 (K.F.kids j).kind, .int .i64 (K.F.kids j).num, .string (K.F.kids j).name, .slice af (K.F.kids j).len cf] 30)) O2 s' r' l' o' W) => hback1 _ _ _ _ _ (hback2 s' r' l' o' W h))
  have HS2 := hid_mk hs2
  have HKID := hid_mk (fun (h0 : T.len ≠ 0) => ck_kid hN.row h0)
  have HKF := hid_mk (ck_kid hrf (by omega))
  have HWN := hid_mk (fun (i : Nat) (hi : i < T.len) (u : Value) (hr : Row 0 K.lo w (T.kids i) u) (W : World) (st : CS) (ty : Int) (hW : IS K ((w.alloc (.cells #[.int .i64 T.kind, .int .i64 T.num, .string T.name, .slice a T.len cap] 30)).alloc (.cells #[.int .i64 (K.F.kids j).kind, .int .i64 (K.F.kids j).num, .string (K.F.kids j).name, .slice af (K.F.kids j).len cf] 30)) O2 st ret loops sels W) (hf : st.2.length + (T.kids i).size ≤ K.N) => iwant_of (ih i hi) K _ O2 st ret loops sels W u ty hW (hE.later (HBL.out _ _ _ _ _ hW)) ((hN.kid hi hr).later (HBL.out _ _ _ _ _ hW)) hf (he i hi))
  have HFT : Hid (∀ i st, i < T.len → forN (fun i => wantM (exT K.F (T.kids i)) ((K.F.kids j).kids i).num) i (take0 s) = .ok st → st.2.length + (T.kids i).size ≤ K.N) := by
    intro i st hi h
    have := forN_wt (g := fun i => (T.kids i).size) (fun i hi => (ex_len K.F _ (he i hi)).want ((K.F.kids j).kids i).num) (Nat.le_of_lt hi) _ _ h
    have h2 := kidAt_le T s.2.length hi
    rw [take0_len] at this
    unfold kidAt at h2
    omega
  have hnb : ¬ K.cb = w.heap.size := by omega
  have hnb1 : ¬ K.cb = w.heap.size + 1 := by omega
  have hcb1 : K.cb < w.heap.size + 1 := by omega
  have k0' := (hS.alloc (.cells #[.int .i64 T.kind, .int .i64 T.num, .string T.name, .slice a T.len cap] 30)).fcell
  have hlo : K.lo ≤ w.heap.size := by have := hS.ok.cl; omega
  have HPA := hid_mk (fun W => par_any (K.F.kids j) W af cf hfl hffine hcpf.1)
  have hglen : (K.F.kids j).len - 1 = T.len := by omega
  rw [hglen] at HPA
  have hlen2 : T.len ≤ (K.F.kids j).len := by omega
  have hmix : Tryz.prog.follows Departure.mixedOrders = true := by kernel_rfl
  unfold Nd.val at *
  clear hS hN hq hj hE hrf hqf huf hjl hs1 hs2 hback1 hback2 hbox1 hbox2 hbl1 hbl2 ih he hfit hglen
  have hcfT : T.len ≤ cf := by omega
  have HCNT := hid_mk hcnt
  clear hcnt
  generalize K.F.kids j = G at *
  go_enter Tryz.func128, Tryz.ntmps128
  go_wp2
  go_region_held3 (fun W => W.cell? ⟨K.cb, 0, none⟩ = some (.map (some K.mf)) ∧ W.cell? ⟨w.heap.size, 2, none⟩ = some (.string T.name)) (go_keep) (fail)
  all_goals go_wp2_with (first
    | (go_at_call 45; refine (HPA.out _).mono ?_; rintro e w2 ⟨rfl, hb2⟩; have hs3 := HS2.out.drew.calm hb2; obtain ⟨f0, f1, f2, f3⟩ := box_cells (HBX.out _ _ _ _ _ hs3); obtain ⟨b0, b1, b2, b3⟩ := box_cells (HBX1.out _ _ _ _ _ hs3); have HS3 := hid_mk hs3; clear hs3 hb2))
  all_goals go_loopw [41] (fun i wr => ∃ n : Nat, n ≤ T.len ∧ i = .int .i64 n ∧ ∃ st, forN (fun i => wantM (exT K.F (T.kids i)) (G.kids i).num) n (take0 s) = .ok st ∧ IS K ((w.alloc (.cells #[.int .i64 T.kind, .int .i64 T.num, .string T.name, .slice a T.len cap] 30)).alloc (.cells #[.int .i64 G.kind, .int .i64 G.num, .string G.name, .slice af G.len cf] 30)) O2 st ret loops sels wr) (fun i _ => T.len - (intOf i).toNat)
  all_goals try (case atStart => exact ⟨0, Nat.zero_le _, rfl, take0 s, rfl, HS3.out⟩)
  all_goals
    obtain ⟨n, hn', rfl, st, hst, hss⟩ := hrel
    by_cases hltn : n < T.len
    · have hni : (n : Int) < (T.len : Int) := by omega
      obtain ⟨g, off, cap', hv', hgl, hcap', hkid⟩ := HKID.out (by omega)
      injection hv' with ev1 ev2 ev3
      subst ev1
      subst ev3
      obtain ⟨gf, of, cf', hvf', hglf, hcapf', hkidf⟩ := HKF.out
      injection hvf' with evf1 evf2 evf3
      subst evf1
      subst evf3
      obtain ⟨u, hcn, hrn⟩ := hkid n hltn
      obtain ⟨au, qu, hu, hcu, hqu⟩ := row_eq.1 hrn
      subst hu
      clear hqu
      obtain ⟨up, hcp, hrp⟩ := hkidf n (by omega)
      obtain ⟨c0, c1, c2, c3⟩ := hcn _ (HBL.out _ _ _ _ _ hss)
      obtain ⟨p0, p1, p2, p3⟩ := hcp _ (HBL.out _ _ _ _ _ hss)
      have HW := hid_mk (fun o => HWN.out n hltn _ hrn (wr.alloc o).drew st (G.kids n).num (hss.alloc o).drew (HFT.out n st hltn hst))
      have HNX : Hid (forN (fun i => wantM (exT K.F (T.kids i)) (G.kids i).num) (n + 1) (take0 s) = wantM (exT K.F (T.kids n)) (G.kids n).num st) := by unfold Hid; simp only [forN, hst]; rfl
      have HBO := hid_mk (fun o => (HBL.out _ _ _ _ _ hss).trans (hss.box o))
      have hgfw := World.block_lt_of_cell? wr ⟨gf, of + n * 4 + 1, none⟩ p1
      dsimp only at hgfw
      unfold Nd.val at HW
      clear hkid hcn hrn hkidf hcp hrp hss
      cases hM : wantM (exT K.F (T.kids n)) (G.kids n).num st with
      | error p =>
        have HM := hid_mk hM
        have HER : Hid (CR.bind (forN (fun i => wantM (exT K.F (T.kids i)) (G.kids i).num) T.len (take0 s)) (fun s1 => .ok (G.num, s1)) = .error p) := by unfold Hid; rw [forN_err (HNX.out.trans hM) (show n + 1 ≤ T.len by omega)]; rfl
        clear hM hst
        go_wp2
        generalize hwx : wr.alloc (.cells #[.int .i64 (T.kids n).kind, .int .i64 (T.kids n).num, .string (T.kids n).name, .slice au (T.kids n).len qu] 30) = wx
        obtain ⟨x0, x1, x2, x3⟩ := box_cells (w := wx) (b := wr.heap.size) (t := 30) (by rw [← hwx]; exact heap_alloc_new wr _)
        have xp : wx.cell? ⟨gf, of + n * 4 + 1, none⟩ = some (.int .i64 (G.kids n).num) := by rw [← hwx]; exact (World.cell?_alloc_past _ _ _ hgfw).trans p1
        have HWX := hid_mk (HW.out (.cells #[.int .i64 (T.kids n).kind, .int .i64 (T.kids n).num, .string (T.kids n).name, .slice au (T.kids n).len qu] 30))
        have HBOX := hid_mk (HBO.out (.cells #[.int .i64 (T.kids n).kind, .int .i64 (T.kids n).num, .string (T.kids n).name, .slice au (T.kids n).len qu] 30))
        rw [hwx] at HWX HBOX
        clear hwx
        go_still_tail 7, hmix
        go_wp2_with (first
          | (go_at_call 109; refine (ansE HWX.out HM.out).mono ?_; rintro e w2 ⟨rfl, hb2⟩; skip))
        refine ⟨rfl, ?_⟩
        rw [ans_err HER.out]
        exact ⟨rfl, HBOX.out.drew.trans hb2⟩
      | ok s1 =>
        have HM := hid_mk hM
        clear hM hst
        go_wp2
        generalize hwx : wr.alloc (.cells #[.int .i64 (T.kids n).kind, .int .i64 (T.kids n).num, .string (T.kids n).name, .slice au (T.kids n).len qu] 30) = wx
        obtain ⟨x0, x1, x2, x3⟩ := box_cells (w := wx) (b := wr.heap.size) (t := 30) (by rw [← hwx]; exact heap_alloc_new wr _)
        have xp : wx.cell? ⟨gf, of + n * 4 + 1, none⟩ = some (.int .i64 (G.kids n).num) := by rw [← hwx]; exact (World.cell?_alloc_past _ _ _ hgfw).trans p1
        have HWX := hid_mk (HW.out (.cells #[.int .i64 (T.kids n).kind, .int .i64 (T.kids n).num, .string (T.kids n).name, .slice au (T.kids n).len qu] 30))
        rw [hwx] at HWX
        clear hwx
        go_still_tail 7, hmix
        go_wp2_with (first
          | (go_at_call 109; refine (ansO HWX.out HM.out).mono ?_; rintro e w2 ⟨rfl, hs2⟩; have HS9 := hid_mk hs2; clear hs2))
        exact ⟨⟨n + 1, by omega, by go_num, s1, by rw [HNX.out, HM.out], HS9.out⟩, by simp [intOf]; omega⟩
    · obtain rfl : n = T.len := by omega
      obtain ⟨f0, f1, f2, f3⟩ := box_cells (HBX.out _ _ _ _ _ hss)
      have HSS := hid_mk hss
      have HST := hid_mk hst
      clear hss hst
      go_wp2
      go_ret
      rw [ans_ok (a := (G.num, st)) (by rw [HST.out]; rfl)]
      exact ⟨rfl, HB1.out _ _ _ _ _ HSS.out⟩
theorem ica_of {T : Nd} (ih : ∀ i, i < T.len → IExS (T.kids i)) : ICaS T := by
  intro K w0 O s ret loops sels w v hS hE hN hfit hk hok
  have hty : typeM K.F T.kind T.name T.len (fun i => exT K.F (T.kids i)) (take0 s) s.2.length = (match findF K.F T.name with
    | none => .error (5, s.2.length)
    | some j => if T.len + 1 = (K.F.kids j).len then CR.bind (forN (fun i => wantM (exT K.F (T.kids i)) ((K.F.kids j).kids i).num) T.len (take0 s)) fun s1 => .ok ((K.F.kids j).num, s1) else .error (8, s.2.length)) := by
    unfold typeM
    rw [if_neg (by omega), if_neg (by omega), if_neg (by omega), if_pos hk]; rfl
  rw [hty]
  cases hj : findF K.F T.name with
  | none => exact ica_a K w0 O s ret loops sels w v hS hN hj
  | some j =>
    dsimp only
    by_cases hc : T.len + 1 = (K.F.kids j).len
    · rw [if_pos hc]
      exact ica_c ih K w0 O s ret loops sels w v hS hE hN hfit (eo_25 hk hok) j hj hc
    · rw [if_neg hc]
      exact ica_b K w0 O s ret loops sels w v hS hE hN j hj hc
end Go.Proofs.YtbjianmjdadehaaGreatDoor
namespace Go.Proofs.YtbjianmjdadehaaGreatDoor
open Go.RowKit

set_option maxHeartbeats 4000000 in
set_option maxRecDepth 100000 in
theorem ity_25 {T : Nd} (hk : T.kind = 25) (hU : ICaS T) : ITyS T := by
  intro K w0 O s ret loops sels w v hS hE hN hfit hok
  have HB := hid_mk (fun o => hS.box o)
  have HV := hid_mk (fun o => hU K w0 O s ret loops sels (w.alloc o) v (hS.alloc o) (hE.later (hS.box o)) (hN.later (hS.box o)) hfit hk hok)
  unfold Nd.val at *
  have hk2 : (T.kind : Int) = 25 := hk
  generalize typeM K.F T.kind T.name T.len (fun i => exT K.F (T.kids i)) (take0 s) s.2.length = M at *
  rw [hk2] at HV ⊢
  clear hS hE hN hok hfit hk hk2
  cases hM : M with
  | error p =>
    have HM := hid_mk hM
    clear hM
    go_enter Tryz.func124, Tryz.ntmps124
    go_wp2_with (first
      | (go_at_call 128; refine (ansE (HV.out _) HM.out).mono ?_; rintro e w2 ⟨rfl, hb2⟩; skip))
    exact ⟨rfl, rfl, (HB.out _).trans hb2⟩
  | ok r =>
    have HM := hid_mk hM
    clear hM
    go_enter Tryz.func124, Tryz.ntmps124
    go_wp2_with (first
      | (go_at_call 128; refine (ansO (HV.out _) HM.out).mono ?_; rintro e w2 ⟨rfl, hs2⟩; have HS2 := hid_mk hs2; clear hs2))
    go_ret
    exact ⟨rfl, HS2.out⟩
end Go.Proofs.YtbjianmjdadehaaGreatDoor
namespace Go.Proofs.YtbjianmjdadehaaGreatDoor
open Go.RowKit

theorem ity_all (hVar : IVar) {T : Nd} (ih : ∀ i, i < T.len → IExS (T.kids i)) : ITyS T := by
  intro K w0 O s ret loops sels w v hS hE hN hfit hok
  rcases eo_kind hok with h | h | h | h | h | h | h | h
  · exact ity_22 h K w0 O s ret loops sels w v hS hE hN hfit hok
  · exact ity_23 h K w0 O s ret loops sels w v hS hE hN hfit hok
  · exact ity_24 h hVar K w0 O s ret loops sels w v hS hE hN hfit hok
  · exact ity_25 h (ica_of ih) K w0 O s ret loops sels w v hS hE hN hfit hok
  · exact ity_26 h ih K w0 O s ret loops sels w v hS hE hN hfit hok
  · exact ity_27 h (iun_of ih) K w0 O s ret loops sels w v hS hE hN hfit hok
  · exact ity_28 h (ibi_of ih) K w0 O s ret loops sels w v hS hE hN hfit hok
  · exact ity_29 h ih K w0 O s ret loops sels w v hS hE hN hfit hok
theorem iex_every (hVar : IVar) (T : Nd) : IExS T := by
  induction T with
  | nil => exact iexpr_of (ity_all hVar fun i hi => absurd hi (Nat.not_lt_zero i))
  | mk k n s len kids ih => exact iexpr_of (ity_all hVar fun i _ => ih i)
end Go.Proofs.YtbjianmjdadehaaGreatDoor
