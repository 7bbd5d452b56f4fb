/- The program's checker: the functions' names. -/
import Derived.Test.YtbjianmjdadehaaGreatDoorKgB
import Derived.Test.YtbjianmjdadehaaGreatDoorKdB
import Derived.Test.YtbjianmjdadehaaGreatDoorKaWalk
import Derived.Deep.RegionWith
import Derived.Test.YtbjianmjdadehaaGreatDoorKdP
set_option linter.unusedVariables false
namespace Go.Proofs.YtbjianmjdadehaaGreatDoor
open Go.RowKit

theorem findTo_no {F : Nd} {s : ByteArray} : ∀ {n : Nat}, findTo F s n = none → ∀ j, j < n → (F.kids j).name ≠ s
  | n + 1, h, j, hj => by
    simp only [findTo] at h
    cases hr : findTo F s n with
    | some k => rw [hr] at h; cases h
    | none =>
      rw [hr] at h
      by_cases e : (F.kids n).name = s
      · rw [if_pos e] at h; cases h
      · by_cases e' : j = n
        · subst e'; exact e
        · exact findTo_no hr j (by omega)
theorem findTo_stays {F : Nd} {s : ByteArray} {i n : Nat} (h : findTo F s n = some i) : ∀ {k : Nat}, n ≤ k → findTo F s k = some i := by
  intro k hk
  induction hk with
  | refl => exact h
  | step _ ih => simp only [findTo, ih]
theorem twice_ok {F : Nd} {n : Nat} (hn : n < F.len) (h : findTo F (F.kids n).name n = none) : twiceM F n () = .ok () := by
  unfold twiceM findF
  rw [if_pos (findTo_some (findTo_no h) rfl hn)]
theorem twice_bad {F : Nd} {n j : Nat} (hn : n < F.len) (h : findTo F (F.kids n).name n = some j) : twiceM F n () = .error (6, 1 + sumTo (fun j => (F.kids j).size) n) := by
  unfold twiceM findF
  rw [findTo_stays h (Nat.le_of_lt hn), if_neg]
  have := (findTo_spec h).1
  intro e; injection e with e; omega
theorem IK.fns_succ {K : IK} {n : Nat} (h : findTo K.F (K.F.kids n).name n = none) : updM (K.fns n) (K.F.kids n).name (.agg #[.int .i64 (K.F.kids n).kind, .int .i64 (K.F.kids n).num, .string (K.F.kids n).name, K.uf n]) = K.fns (n + 1) := by
  funext s
  unfold updM IK.fns
  by_cases e : s = (K.F.kids n).name
  · subst e
    rw [if_pos rfl]
    simp only [findTo, h]
    rw [if_pos trivial]; rfl
  · rw [if_neg e]
    simp only [findTo]
    cases findTo K.F s n with
    | some k => rfl
    | none => rw [if_neg (fun h => e h.symm)]
end Go.Proofs.YtbjianmjdadehaaGreatDoor
namespace Go.Proofs.YtbjianmjdadehaaGreatDoor
open Go.RowKit

theorem MapAt.grow {w : World} {b n : Nat} {m : ByteArray → Option Value} (h : MapAt w b n m) (o : Obj) : MapAt (w.alloc o) b n m := h.same (Below.heap_alloc w o b h.lt)
theorem MapAt.funs {K : IK} {w : World} {n : Nat} (h : MapAt w K.mf n (K.fns n)) {t : ByteArray} (ht : t.size ≤ maxLen) :
    (Instr.lookup 71 (.map (some K.mf)) (.string t) true).run Tryz.prog w = .ok (.tuple #[((findTo K.F t n).map fun j => Value.agg #[.int .i64 (K.F.kids j).kind, .int .i64 (K.F.kids j).num, .string (K.F.kids j).name, K.uf j]).getD (.agg #[.int .i64 0, .int .i64 0, .string ⟨#[]⟩, .slice none 0 0]), .bool (findTo K.F t n).isSome]) w := by
  have := h.lookOk (t := 71) Tryz.underlying71 (zeroN w) ht
  rw [this]
  unfold IK.fns
  simp

set_option maxHeartbeats 8000000 in
set_option maxRecDepth 100000 in
theorem names_of (K : IK) (w : World) (a : Option Addr) (cap : Nat) (hok : K.Ok) (hcb : K.cb < w.heap.size) (k0 : w.cell? ⟨K.cb, 0, none⟩ = some (.map (some K.mf))) (hmap : MapAt w K.mf 0 (K.fns 0)) (hf : K.F.Fine) (hcost : K.F.cost ≤ 1048576)
    (hq : K.F.len ≠ 0 → ∃ g off, a = some ⟨g, off, none⟩ ∧ g < K.lo ∧ K.F.len ≤ cap ∧ ∀ i, i < K.F.len → (∃ au qu, K.uf i = .slice au (K.F.kids i).len qu) ∧ Row 0 K.lo w (K.F.kids i) (K.uf i) ∧ ∀ W, Below K.lo w W → W.cell? ⟨g, off + i * 4, none⟩ = some (.int .i64 (K.F.kids i).kind) ∧ W.cell? ⟨g, off + i * 4 + 1, none⟩ = some (.int .i64 (K.F.kids i).num) ∧
        W.cell? ⟨g, off + i * 4 + 2, none⟩ = some (.string (K.F.kids i).name) ∧ W.cell? ⟨g, off + i * 4 + 3, none⟩ = some (K.uf i)) :
    Calls Tryz.prog 59 #[.pointer (some ⟨K.cb, 0, none⟩), .slice a K.F.len cap, .int .i64 1] w (Ans K w (forN (twiceM K.F) K.F.len ()) fun _ e w' => e = .returned (.tuple #[]) ∧ Kept (fun k => k = K.mf) w w' ∧ MapAt w' K.mf K.F.len (K.fns K.F.len)) := by
  have hn := K.F.fine_len hf
  have hsz := K.F.size_cost
  have hlo : K.lo ≤ w.heap.size := by have := hok.cl; omega
  have hmf := hmap.lt
  have HQ := hid_mk hq
  have HF := hid_mk hf
  have HMP := hid_mk hmap
  have HOK := hid_mk hok
  have hmix : Tryz.prog.follows Departure.mixedOrders = true := by kernel_rfl
  clear hq hf hmap
  go_enter Tryz.func59, Tryz.ntmps59
  go_wp2
  go_loopw [2, 12] (fun at' i wr => ∃ n : Nat, n ≤ K.F.len ∧ i = .int .i64 n ∧ at' = .int .i64 ((1 + sumTo (fun j => (K.F.kids j).size) n : Nat) : Int) ∧ forN (twiceM K.F) n () = .ok () ∧ Kept (fun k => k = K.mf) w wr ∧ MapAt wr K.mf n (K.fns n)) (fun _ i _ => K.F.len - (intOf i).toNat)
  case atStart => exact ⟨0, Nat.zero_le _, rfl, rfl, rfl, Kept.refl _ _, HMP.out⟩
  case round =>
    obtain ⟨n, hn', rfl, rfl, hst, hkp, hmp⟩ := hrel
    have hbl : Below K.lo w wr := hkp.below hlo (fun k hk => by have := hok.ml; have hk' : k = K.mf := hk; omega)
    have hws := hkp.size
    have kr : wr.cell? ⟨K.cb, 0, none⟩ = some (.map (some K.mf)) := by
      rw [← k0]; exact World.cell?_of_block (hkp.block _ hcb (fun e => hok.ne e))
    by_cases hlt : n < K.F.len
    · have hji : (n : Int) < (K.F.len : Int) := by omega
      obtain ⟨g, off, hag, hgl, hcapL, hkid⟩ := HQ.out (by omega)
      subst hag
      obtain ⟨⟨au, qu, hu⟩, hrow, hcells⟩ := hkid n hlt
      obtain ⟨c0, c1, c2, c3⟩ := hcells _ hbl
      rw [hu] at c3
      have hnm := name_max (Nd.fine_kid HF.out hlt)
      have hlk0 := MapAt.funs (K := K) (n := n) ((hmp.grow (.cells #[.int .i64 (K.F.kids n).kind, .int .i64 (K.F.kids n).num, .string (K.F.kids n).name, .slice au (K.F.kids n).len qu] 30)).same (w' := (wr.alloc (.cells #[.int .i64 (K.F.kids n).kind, .int .i64 (K.F.kids n).num, .string (K.F.kids n).name, .slice au (K.F.kids n).len qu] 30)).drew) rfl) hnm
      have hlk1 := MapAt.funs (K := K) (n := n) (((hmp.grow (.cells #[.int .i64 (K.F.kids n).kind, .int .i64 (K.F.kids n).num, .string (K.F.kids n).name, .slice au (K.F.kids n).len qu] 30)).grow (.cells #[.int .i64 0, .int .i64 0, .string ⟨#[]⟩, .slice none 0 0] 30)).same (w' := ((wr.alloc (.cells #[.int .i64 (K.F.kids n).kind, .int .i64 (K.F.kids n).num, .string (K.F.kids n).name, .slice au (K.F.kids n).len qu] 30)).alloc (.cells #[.int .i64 0, .int .i64 0, .string ⟨#[]⟩, .slice none 0 0] 30)).drew) rfl) hnm
      have hnb : ¬ K.cb = wr.heap.size := by omega
      have hnb1 : ¬ K.cb = wr.heap.size + 1 := by omega
      have hcb1 : K.cb < wr.heap.size + 1 := by omega
      have k0' : (wr.alloc (.cells #[.int .i64 (K.F.kids n).kind, .int .i64 (K.F.kids n).num, .string (K.F.kids n).name, .slice au (K.F.kids n).len qu] 30)).cell? ⟨K.cb, 0, none⟩ = some (.map (some K.mf)) := by
        rw [← kr]; exact World.cell?_of_block (Below.heap_alloc wr _ K.cb (by omega))
      have HBL := hid_mk hbl
      have HMR := hid_mk hmp
      have HKP := hid_mk hkp
      have HST := hid_mk hst
      have HU := hid_mk hu
      have HRW := hid_mk hrow
      have HBB := hid_mk (fun o o' => ((Below.refl K.lo wr).alloc (by omega) o).alloc (by simp; omega) o')
      clear hbl hmp hkp hst hkid hcells hu hrow
      cases hfd : findTo K.F (K.F.kids n).name n with
      | some j =>
        have HER : Hid (forN (twiceM K.F) K.F.len () = .error (6, 1 + sumTo (fun j => (K.F.kids j).size) n)) := forN_err (j := n + 1) (by simp only [forN, HST.out]; exact twice_bad hlt hfd) (by omega)
        obtain ⟨⟨au2, qu2, hu2⟩, _, _⟩ : (∃ au qu, K.uf j = .slice au (K.F.kids j).len qu) ∧ True ∧ True := by
          obtain ⟨_, _, _, _, _, hkid⟩ := HQ.out (by omega)
          exact ⟨(hkid j (by have := (findTo_spec hfd).1; omega)).1, trivial, trivial⟩
        rw [hfd] at hlk0 hlk1
        simp only [Option.map_some, Option.getD_some, Option.isSome_some] at hlk0 hlk1
        rw [hu2] at hlk0 hlk1
        clear hfd
        generalize sumTo (fun j => (K.F.kids j).size) n = q at *
        go_wp2
        go_region_held3 (fun W => W.cell? ⟨K.cb, 0, none⟩ = some (.map (some K.mf)) ∧ W.cell? ⟨wr.heap.size, 2, none⟩ = some (.string (K.F.kids n).name)) (go_keep) (fail)
        all_goals go_wp2
        all_goals (refine ⟨rfl, ?_⟩; rw [ans_err HER.out]; exact ⟨rfl, HBL.out.trans (HBB.out _ _).drew⟩)
      | none =>
        have HOKN : Hid (forN (twiceM K.F) (n + 1) () = .ok ()) := by unfold Hid; simp only [forN, HST.out]; exact twice_ok hlt hfd
        have HFS := hid_mk (IK.fns_succ hfd)
        rw [HU.out] at HFS HRW
        rw [hfd] at hlk0 hlk1
        simp only [Option.map_none, Option.getD_none, Option.isSome_none] at hlk0 hlk1
        have hmr := HMR.out.lt
        have HBW := hid_mk (fun o o' => ((Below.refl wr.heap.size wr).alloc (Nat.le_refl _) o).alloc (by simp) o')
        have HSZ := hid_mk (fun (W : World) (hb : Below K.lo w W) => impl_size (K.F.kids n) W _ (Nd.fine_kid HF.out hlt) (row_wide (row_below hb (Nat.le_refl _) HRW.out) (Nat.le_refl _) (by have := hb.size; omega)) (Nat.le_trans (Nd.cost_kid K.F hlt) hcost))
        have hkl := kidAt_le K.F 0 hlt
        unfold kidAt at hkl
        have hwr : IntKind.i64.wrap (((1 + sumTo (fun j => (K.F.kids j).size) n : Nat) : Int) + ((K.F.kids n).size : Int)) = ((1 + sumTo (fun j => (K.F.kids j).size) (n + 1) : Nat) : Int) := by
          simp only [sumTo]
          simp [IntKind.wrap, IntKind.bits, IntKind.signed]; omega
        unfold Nd.val at HSZ
        clear hfd
        obtain ⟨q1, hq1⟩ : ∃ q, 1 + sumTo (fun j => (K.F.kids j).size) (n + 1) = q := ⟨_, rfl⟩
        rw [hq1] at hwr
        have HQ1 := hid_mk hq1
        clear hq1
        generalize 1 + sumTo (fun j => (K.F.kids j).size) n = q0 at *
        go_wp2
        go_region_held3 (fun W => W.cell? ⟨K.cb, 0, none⟩ = some (.map (some K.mf)) ∧ W.cell? ⟨wr.heap.size, 2, none⟩ = some (.string (K.F.kids n).name)) (go_keep) (fail)
        all_goals go_wp2
        all_goals (
          obtain ⟨W, hW⟩ : ∃ W, ((wr.alloc (.cells #[.int .i64 (K.F.kids n).kind, .int .i64 (K.F.kids n).num, .string (K.F.kids n).name, .slice au (K.F.kids n).len qu] 30)).alloc (.cells #[.int .i64 0, .int .i64 0, .string ⟨#[]⟩, .slice none 0 0] 30)).drew = W := ⟨_, rfl⟩
          have f0 : W.cell? ⟨wr.heap.size, 0, none⟩ = some (.int .i64 (K.F.kids n).kind) := by rw [← hW]; simp [go_sem]
          have f1 : W.cell? ⟨wr.heap.size, 1, none⟩ = some (.int .i64 (K.F.kids n).num) := by rw [← hW]; simp [go_sem]
          have f2 : W.cell? ⟨wr.heap.size, 2, none⟩ = some (.string (K.F.kids n).name) := by rw [← hW]; simp [go_sem]
          have f3 : W.cell? ⟨wr.heap.size, 3, none⟩ = some (.slice au (K.F.kids n).len qu) := by rw [← hW]; simp [go_sem]
          have kW : W.cell? ⟨K.cb, 0, none⟩ = some (.map (some K.mf)) := by
            rw [← kr, ← hW]; exact World.cell?_of_block ((HBW.out _ _).drew.block K.cb (by omega))
          have HB2 : Hid (Below wr.heap.size wr W) := by unfold Hid; rw [← hW]; exact (HBW.out _ _).drew
          have HB5 : Hid (Below K.lo wr W) := by unfold Hid; rw [← hW]; exact (HBB.out _ _).drew
          have HSW : Hid (wr.heap.size < W.heap.size) := by unfold Hid; rw [← hW]; simp [World.drew]; omega
          rw [hW]
          clear hW hlk0 hlk1 k0' kr
          go_still_tail 7, hmix
          go_wp2_with (first
            | (at_mapUpdate; refine wpList_put rfl _ _ _ 71 30 rfl Tryz.underlying71 K.mf n (K.fns n) rfl (HMR.out.same (HB2.out.block K.mf hmr)) (by unfold maxLen; omega) (K.F.kids n).name hnm (.agg #[.int .i64 (K.F.kids n).kind, .int .i64 (K.F.kids n).num, .string (K.F.kids n).name, .slice au (K.F.kids n).len qu]) rfl rfl ?_; intro w3 hm3 hg3; have e0 : w3.cell? ⟨wr.heap.size, 0, none⟩ = some (.int .i64 (K.F.kids n).kind) := (World.cell?_of_block (hg3.block wr.heap.size HSW.out (fun e => by injection e with e; omega))).trans f0; have e1 : w3.cell? ⟨wr.heap.size, 1, none⟩ = some (.int .i64 (K.F.kids n).num) := (World.cell?_of_block (hg3.block wr.heap.size HSW.out (fun e => by injection e with e; omega))).trans f1; have e2 : w3.cell? ⟨wr.heap.size, 2, none⟩ = some (.string (K.F.kids n).name) := (World.cell?_of_block (hg3.block wr.heap.size HSW.out (fun e => by injection e with e; omega))).trans f2; have e3 : w3.cell? ⟨wr.heap.size, 3, none⟩ = some (.slice au (K.F.kids n).len qu) := (World.cell?_of_block (hg3.block wr.heap.size HSW.out (fun e => by injection e with e; omega))).trans f3; have hb3 := (HBL.out.trans HB5.out.drew).grown hg3 (by have := HSW.out; show K.lo ≤ W.heap.size; omega) (fun k e => by injection e with e; have := HOK.out.ml; omega); have HM3 := hid_mk hm3; have HG3 := hid_mk hg3; have HB3 := hid_mk hb3; clear hm3 hg3 hb3)
            | (go_at_call 78; refine (HSZ.out _ HB3.out).mono ?_; rintro e w4 ⟨rfl, hb4⟩))
          refine ⟨⟨n + 1, by omega, by go_num, by rw [HQ1.out], HOKN.out, ?_, ?_⟩, by simp [intOf]; omega⟩
          · exact ((HKP.out.trans (kept_of HB2.out.drew _) (fun _ _ h => h)).trans (Kept.grown (S := fun k => k = K.mf) HG3.out (fun k e => by injection e with e; exact e.symm)) (fun _ _ h => h)).trans (kept_of hb4 _) (fun _ _ h => h)
          · rw [← HFS.out]; exact HM3.out.same (hb4.block _ HM3.out.lt))
    · have hmn : n = K.F.len := by omega
      have HKP := hid_mk hkp
      have HMR := hid_mk hmp
      have HST := hid_mk hst
      clear hkp hmp hst hbl
      go_wp2
      go_end0
      subst hmn
      rw [ans_ok HST.out]
      exact ⟨rfl, HKP.out, HMR.out⟩
end Go.Proofs.YtbjianmjdadehaaGreatDoor
namespace Go.Proofs.YtbjianmjdadehaaGreatDoor
open Go.RowKit

def IK.bare (K : IK) : IK := ⟨K.cb, K.mf, K.lo, K.up, K.N, .nil, K.fv, K.uf⟩
theorem IS.named {K : IK} {w0 : World} {O : Nat → Prop} {X : List Int} {ret : Int} {w w2 : World} (h : IS K.bare w0 O ([], X) ret 0 0 w) (hk : Kept (fun k => k = K.mf) w w2) (hm : MapAt w2 K.mf K.F.len (K.fns K.F.len)) : ∃ O2, IS K w2 O2 ([], X) ret 0 0 w2 := by
  obtain ⟨sv, tv, bs, h1, h2⟩ := h.is
  have hbs : bs = [] := by have := h1.maps.len; simpa using this
  subst hbs
  obtain ⟨f0, f2, f3, hb⟩ := h1.blk
  have hmap := h.fn.isMap
  have a1 : ∀ k, sv.ownBlock = some k → k ≠ K.mf := fun k e e' => map_apart h1.sc hmap (by rw [e, e']; rfl)
  have a2 : ∀ k, tv.ownBlock = some k → k ≠ K.mf := fun k e e' => map_apart h1.ty hmap (by rw [e, e']; rfl)
  refine ⟨Own sv tv [], ⟨h.ok.cl, h.ok.ml, h.ok.cu, h.ok.mu, h.ok.ne, h.ok.few, h.ok.tight⟩, ⟨sv, tv, [], ⟨⟨f0, f2, f3, ?_⟩, ?_, ?_, trivial⟩, fun k hk => .inl hk⟩, hm, ⟨h.len.vars, h.len.deep, h.len.few, h.len.full⟩, ⟨hm.lt, ?_⟩, Kept.refl _ _⟩
  · exact (hk.block _ h1.lt (fun e => h.ok.ne e)).trans hb
  · exact own_calm h1.sc fun k e => hk.block k (h1.sc.lt k e).2 (a1 k e)
  · exact own_calm h1.ty fun k e => hk.block k (h1.ty.lt k e).2 (a2 k e)
  · rintro (e | e | e)
    · exact a1 _ e rfl
    · exact a2 _ e rfl
    · cases e
end Go.Proofs.YtbjianmjdadehaaGreatDoor
namespace Go.Proofs.YtbjianmjdadehaaGreatDoor
open Go.RowKit

set_option maxHeartbeats 8000000 in
set_option maxRecDepth 100000 in
theorem file_of (K : IK) (w0 : World) (O : Nat → Prop) (w : World) (a : Option Addr) (cap : Nat) (hfv : K.fv = .slice a K.F.len cap) (hcapB : cap ≤ 9223372036854775807) (hS : IS K.bare w0 O ([], []) 0 0 0 w) (hE : IEnv K w) (hcost : K.F.cost ≤ 1048576) (hN : K.F.size ≤ K.N)
    (hq : K.F.len ≠ 0 → ∃ g off, a = some ⟨g, off, none⟩ ∧ g < K.lo ∧ K.F.len ≤ cap ∧ ∀ i, i < K.F.len → (∃ au qu, K.uf i = .slice au (K.F.kids i).len qu) ∧ Row 0 K.lo w (K.F.kids i) (K.uf i) ∧ ∀ W, Below K.lo w W → W.cell? ⟨g, off + i * 4, none⟩ = some (.int .i64 (K.F.kids i).kind) ∧ W.cell? ⟨g, off + i * 4 + 1, none⟩ = some (.int .i64 (K.F.kids i).num) ∧
        W.cell? ⟨g, off + i * 4 + 2, none⟩ = some (.string (K.F.kids i).name) ∧ W.cell? ⟨g, off + i * 4 + 3, none⟩ = some (K.uf i)) :
    Calls Tryz.prog 43 #[.pointer (some ⟨K.cb, 0, none⟩), K.F.val K.fv] w (Ans K w (checkM K.F) fun X e w' => e = .returned (.tuple #[]) ∧ Below K.lo w w' ∧ ∃ w2 O2 ret, IS K w2 O2 ([], X) ret 0 0 w') := by
  have hn := K.F.fine_len hE.fine
  have hsz := K.F.size_cost
  have hlo : K.lo ≤ w.heap.size := by have := hS.lt; have := hS.ok.cl; have e1 : K.bare.lo = K.lo := rfl; have e2 : K.bare.cb = K.cb := rfl; omega
  obtain ⟨O1, hs1, hback1, hbox1, hbl1⟩ := hS.boxed (.cells #[.int .i64 K.F.kind, .int .i64 K.F.num, .string K.F.name, .slice a K.F.len cap] 30)
  have hsz0 : 0 < K.F.size := by rw [K.F.size_eq]; omega
  have hok : K.Ok := ⟨hS.ok.cl, hS.ok.ml, hS.ok.cu, hS.ok.mu, hS.ok.ne, hS.ok.few, hS.ok.tight⟩
  have HTK : Hid (Calls Tryz.prog 60 #[.pointer (some ⟨K.cb, 0, none⟩)] (w.alloc (.cells #[.int .i64 K.F.kind, .int .i64 K.F.num, .string K.F.name, .slice a K.F.len cap] 30)).drew fun e w' => e = .returned (.int .i64 0) ∧ IS K.bare (w.alloc (.cells #[.int .i64 K.F.kind, .int .i64 K.F.num, .string K.F.name, .slice a K.F.len cap] 30)) O1 ([], [0]) 0 0 0 w') := take_any hs1.drew (by show 0 + 1 ≤ K.N; omega)
  have HBX := hid_mk hbox1
  have HBL : Hid (∀ s' r' l' o' W, IS K.bare _ O1 s' r' l' o' W → Below K.lo w W) := hbl1
  have HNM := hid_mk (fun (W : World) (hW : IS K.bare (w.alloc (.cells #[.int .i64 K.F.kind, .int .i64 K.F.num, .string K.F.name, .slice a K.F.len cap] 30)) O1 ([], [0]) 0 0 0 W) => names_of K W a cap hok hW.lt.1 hW.fcell hW.fn hE.fine hcost (fun h => by
    obtain ⟨g, off, e1, e2, e3, e4⟩ := hq h
    exact ⟨g, off, e1, e2, e3, fun i hi => ⟨(e4 i hi).1, row_below (HBL.out _ _ _ _ _ hW) (Nat.le_refl _) (e4 i hi).2.1, fun W' hb => (e4 i hi).2.2 W' ((HBL.out _ _ _ _ _ hW).trans hb)⟩⟩))
  have HNE : Hid (¬ w.heap.size = K.mf) := by have := hS.lt.2; have e2 : K.bare.mf = K.mf := rfl; unfold Hid; omega
  have hmix : Tryz.prog.follows Departure.mixedOrders = true := by kernel_rfl
  rw [hfv]
  have b3 := (box_cells (hbox1 _ _ _ _ _ hs1)).2.2.2
  have HQ := hid_mk hq
  have HEV := hid_mk hE
  unfold Nd.val
  clear hq hE hS hs1 hback1 hbox1 hbl1
  cases hM : forN (twiceM K.F) K.F.len () with
  | error pe =>
    have HMN := hid_mk hM
    have HER : Hid (checkM K.F = .error pe) := by unfold Hid checkM; rw [hM]; rfl
    clear hM
    go_enter Tryz.func43, Tryz.ntmps43
    go_wp2
    refine wp_region_held_drew (S := (fun W => W.cell? ⟨w.heap.size, 3, none⟩ = some (.slice a K.F.len cap))) hmix ?_ (fun hHeld => ?_)
    · exact b3
    refine wpAnyH_take (i := 0) (v := ?_) rfl (by kernel_rfl) (by kernel_rfl) (by kernel_rfl) (fun _ _ _ h => h) (Or.inl ⟨by rfl, ?_⟩) hHeld ?_
    rotate_left
    · intro W hW
      have x0 := hW
      go_simp
      with_reducible rfl
    simp only [Act.put, List.setIfInBounds_toArray]
    refine wpAnyH_take (i := 1) (v := ?_) rfl (by kernel_rfl) (by kernel_rfl) (by kernel_rfl) (fun _ _ _ h => h) (Or.inl ⟨by rfl, ?_⟩) hHeld ?_
    rotate_left
    · intro W hW
      have x0 := hW
      go_simp
      with_reducible rfl
    simp only [Act.put]
    refine wpAnyH_take (i := 2) (v := ?_) rfl (by kernel_rfl) (by kernel_rfl) (by kernel_rfl) (fun _ _ _ h => h) (Or.inl ⟨by rfl, ?_⟩) hHeld ?_
    rotate_left
    · intro W hW
      have x0 := hW
      go_simp
      with_reducible rfl
    simp only [Act.put]
    refine wpAnyH_take (i := 3) (v := ?_) rfl (by kernel_rfl) (by kernel_rfl) (by kernel_rfl) (fun _ _ _ h => h) (Or.inl ⟨by rfl, ?_⟩) hHeld ?_
    rotate_left
    · intro W hW
      have x0 := hW
      go_simp
      with_reducible rfl
    simp only [Act.put]
    refine wpAnyH_ready (rs := [4]) (by kernel_rfl) (by simp) ?_
    refine AllReadyH.cons rfl (fun K' hK => ?_) AllReadyH.nil
    rw [if_pos (by rfl)]
    go_wp2_with (go_at_call 60; refine HTK.out.mono ?_; rintro e w1 ⟨rfl, hs1⟩; have b3 := (box_cells (HBX.out _ _ _ _ _ hs1)).2.2.2; have HS1 := hid_mk hs1; clear hs1)
    refine hK.out _ _ b3 (fun hHeld2 => ?_)
    refine wpAnyH_take (i := 5) (v := ?_) rfl (by kernel_rfl) (by kernel_rfl) (by kernel_rfl) (fun _ _ _ h => h) (Or.inl ⟨by rfl, ?_⟩) hHeld2 ?_
    rotate_left
    · intro W hW
      have x0 := hW
      go_simp
      with_reducible rfl
    simp only [Act.put]
    refine wpAnyH_ready (rs := [6]) (by kernel_rfl) (by simp) ?_
    refine AllReadyH.cons rfl (fun K' hK => ?_) AllReadyH.nil
    rw [if_pos (by rfl)]
    go_wp2_with (go_at_call 59; refine (ansE (HNM.out _ HS1.out) HMN.out).mono ?_; rintro e w2 ⟨rfl, hb2⟩)
    refine ⟨rfl, ?_⟩
    rw [ans_err HER.out]
    exact ⟨rfl, (HBL.out _ _ _ _ _ HS1.out).trans hb2⟩
  | ok u =>
    have HMN := hid_mk hM
    have H0 : Hid (fnC K.F 0 = .ok [0]) := by unfold Hid fnC; rw [hM]; rfl
    clear hM
    go_enter Tryz.func43, Tryz.ntmps43
    go_wp2
    refine wp_region_held_drew (S := (fun W => W.cell? ⟨w.heap.size, 3, none⟩ = some (.slice a K.F.len cap))) hmix ?_ (fun hHeld => ?_)
    · exact b3
    refine wpAnyH_take (i := 0) (v := ?_) rfl (by kernel_rfl) (by kernel_rfl) (by kernel_rfl) (fun _ _ _ h => h) (Or.inl ⟨by rfl, ?_⟩) hHeld ?_
    rotate_left
    · intro W hW
      have x0 := hW
      go_simp
      with_reducible rfl
    simp only [Act.put, List.setIfInBounds_toArray]
    refine wpAnyH_take (i := 1) (v := ?_) rfl (by kernel_rfl) (by kernel_rfl) (by kernel_rfl) (fun _ _ _ h => h) (Or.inl ⟨by rfl, ?_⟩) hHeld ?_
    rotate_left
    · intro W hW
      have x0 := hW
      go_simp
      with_reducible rfl
    simp only [Act.put]
    refine wpAnyH_take (i := 2) (v := ?_) rfl (by kernel_rfl) (by kernel_rfl) (by kernel_rfl) (fun _ _ _ h => h) (Or.inl ⟨by rfl, ?_⟩) hHeld ?_
    rotate_left
    · intro W hW
      have x0 := hW
      go_simp
      with_reducible rfl
    simp only [Act.put]
    refine wpAnyH_take (i := 3) (v := ?_) rfl (by kernel_rfl) (by kernel_rfl) (by kernel_rfl) (fun _ _ _ h => h) (Or.inl ⟨by rfl, ?_⟩) hHeld ?_
    rotate_left
    · intro W hW
      have x0 := hW
      go_simp
      with_reducible rfl
    simp only [Act.put]
    refine wpAnyH_ready (rs := [4]) (by kernel_rfl) (by simp) ?_
    refine AllReadyH.cons rfl (fun K' hK => ?_) AllReadyH.nil
    rw [if_pos (by rfl)]
    go_wp2_with (go_at_call 60; refine HTK.out.mono ?_; rintro e w1 ⟨rfl, hs1⟩; have b3 := (box_cells (HBX.out _ _ _ _ _ hs1)).2.2.2; have HS1 := hid_mk hs1; clear hs1)
    refine hK.out _ _ b3 (fun hHeld2 => ?_)
    refine wpAnyH_take (i := 5) (v := ?_) rfl (by kernel_rfl) (by kernel_rfl) (by kernel_rfl) (fun _ _ _ h => h) (Or.inl ⟨by rfl, ?_⟩) hHeld2 ?_
    rotate_left
    · intro W hW
      have x0 := hW
      go_simp
      with_reducible rfl
    simp only [Act.put]
    refine wpAnyH_ready (rs := [6]) (by kernel_rfl) (by simp) ?_
    refine AllReadyH.cons rfl (fun K' hK => ?_) AllReadyH.nil
    rw [if_pos (by rfl)]
    go_wp2_with (go_at_call 59; refine (ansO (HNM.out _ HS1.out) HMN.out).mono ?_; rintro e w2 ⟨rfl, hk2, hm2⟩; have b3 : w2.cell? ⟨w.heap.size, 3, none⟩ = some (.slice a K.F.len cap) := (World.cell?_of_block (hk2.block w.heap.size (Array.getElem?_eq_some_iff.1 (HBX.out _ _ _ _ _ HS1.out)).1 (fun e => HNE.out e))).trans b3; have HK2 := hid_mk hk2; have HM2 := hid_mk hm2; clear hk2 hm2)
    refine hK.out _ _ b3 (fun hHeld3 => ?_)
    refine wpAnyH_done (by kernel_rfl) ?_ _
    obtain ⟨O9, hs9⟩ := HS1.out.named HK2.out HM2.out
    obtain ⟨O2, hs2, _, hsi⟩ := hs9.since
    have HB2 : Hid (Below K.lo w w2) := (HBL.out _ _ _ _ _ HS1.out).trans (HK2.out.below (by have := (HBL.out _ _ _ _ _ HS1.out).size; omega) (fun k e => by have := hok.ml; have e' : k = K.mf := e; omega))
    have HBI := hid_mk (fun s' r' l' o' W (h : IS K w2 O2 s' r' l' o' W) => HB2.out.trans (hsi _ _ _ _ _ h))
    have HS2 := hid_mk hs2
    clear hs9 hs2 hsi HS1 HK2 HM2 HNM HTK
    go_wp2
    go_loopw [16] (fun i wr => ∃ n : Nat, n ≤ K.F.len ∧ i = .int .i64 n ∧ ∃ X ret, fnC K.F n = .ok X ∧ IS K w2 O2 ([], X) ret 0 0 wr) (fun i _ => K.F.len - (intOf i).toNat)
    case atStart => exact ⟨0, Nat.zero_le _, rfl, [0], 0, H0.out, HS2.out⟩
    case round =>
      obtain ⟨n, hn', rfl, X, ret, hst, hss⟩ := hrel
      by_cases hlt : n < K.F.len
      · have hji : (n : Int) < (K.F.len : Int) := by omega
        obtain ⟨g, off, hag, hgl, hcapL, hkid⟩ := HQ.out (by omega)
        subst hag
        obtain ⟨⟨au, qu, hu⟩, hrow, hcells⟩ := hkid n hlt
        have hbl := HBI.out _ _ _ _ _ hss
        obtain ⟨c0, c1, c2, c3⟩ := hcells _ hbl
        have hx := fnC_at HEV.out.ok (Nat.le_of_lt hlt) X hst
        have hkl := kidAt_le K.F 0 hlt
        rw [hu] at c3 hrow
        have HFU := hid_mk (fun o => ifun_of (tree_fun HEV.out.ok hlt) K w2 O2 X ret (wr.alloc o) _ (hss.alloc o) (HEV.out.later (hbl.trans (hss.box o))) ⟨Nd.fine_kid HEV.out.fine hlt, row_below (hbl.trans (hss.box o)) (Nat.le_refl _) hrow, Nat.le_trans (Nd.cost_kid K.F hlt) hcost⟩ (by omega))
        have HNX : Hid (fnC K.F (n + 1) = funM K.F (K.F.kids n) X) := by unfold Hid; rw [fnC_succ, hst]; rfl
        have HBO := hid_mk (fun o => hbl.trans (hss.box o))
        unfold Nd.val at HFU
        clear hkid hcells hrow hu hbl hx hkl hst hss
        cases hM : funM K.F (K.F.kids n) X with
        | error pe =>
          have HM := hid_mk hM
          have HER : Hid (checkM K.F = .error pe) := fnC_err (HNX.out.trans hM) (by omega : n + 1 ≤ K.F.len)
          clear hM
          go_wp2_with (first
            | (go_at_call 61; refine (ansE (HFU.out _) HM.out).mono ?_; rintro e w4 ⟨rfl, hb4⟩; skip))
          refine ⟨rfl, ?_⟩
          rw [ans_err HER.out]
          exact ⟨rfl, (HBO.out _).trans hb4⟩
        | ok X1 =>
          have HM := hid_mk hM
          clear hM
          go_wp2_with (first
            | (go_at_call 61; refine (ansO (HFU.out _) HM.out).mono ?_; rintro e w4 ⟨rfl, hs4⟩; have HS4 := hid_mk hs4; clear hs4))
          exact ⟨⟨n + 1, by omega, by go_num, X1, _, by rw [HNX.out, HM.out], HS4.out⟩, by simp [intOf]; omega⟩
      · have hmn : n = K.F.len := by omega
        have HSS := hid_mk hss
        have HST : Hid (checkM K.F = .ok X) := by unfold Hid; rw [← hst, hmn]; rfl
        clear hss hst
        go_wp2
        go_end0
        rw [ans_ok HST.out]
        exact ⟨rfl, HBI.out _ _ _ _ _ HSS.out, _, _, _, HSS.out⟩
end Go.Proofs.YtbjianmjdadehaaGreatDoor
