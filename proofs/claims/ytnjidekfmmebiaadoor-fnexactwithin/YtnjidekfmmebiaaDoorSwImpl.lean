/- The program's Within. -/
import Derived.Test.YtnjidekfmmebiaaDoorSwFirst
set_option linter.unusedVariables false
namespace Go.Proofs.YtnjidekfmmebiaaDoor
open Go.RowKit

set_option maxHeartbeats 8000000 in
set_option maxRecDepth 100000 in
theorem impl_first (xs ys : List Sn) (u v : Value) (la ha lb hb : Nat) (w : World) (hx : OkS xs) (hy : OkS ys) (hc : costS xs ≤ 1048576) (hd : costS ys ≤ 1048576) (hha : ha ≤ w.heap.size) (hhb : hb ≤ w.heap.size) (h : Rw la ha w xs u) (h' : Rw lb hb w ys v) (hT : Tab w) :
    Calls Tryd.prog 22 #[u, v] w fun e w' => e = .returned (.int .i64 (missI xs ys)) ∧ Below w.heap.size w w' := by
  have hl20 : xs.length ≤ 1048576 := Nat.le_trans (len_cost xs) hc
  have hl21 : ys.length ≤ 1048576 := Nat.le_trans (len_cost ys) hd
  have HI := hid_mk (fun kb mb n W (hb : Below w.heap.size w W) => index_unlike xs ys u la ha kb mb n W hx hc (by have := hb.size; omega) (h.below hb hha) (Tab.later (B := 0) hT hb))
  obtain ⟨a, ca, rfl⟩ := h.shape
  obtain ⟨b, cb, rfl, hq'⟩ := h'
  have HQ' := hid_mk hq'
  have HY := hid_mk (fun i (hi : i < ys.length) => And.intro (hy.at i hi) (Nat.le_trans (cost_at ys i hi) hd))
  have HTT := hid_mk (fun W (hb : Below w.heap.size w W) => Tab.later (B := 0) hT hb)
  clear hq' hc hd hx hy hT h
  have hmm := @run_makeMap Tryd.prog
  go_enter Tryd.func22, Tryd.ntmps22
  go_wp2
  clear hmm
  have S0 := hid_mk ((set_made w).same (Below.heap_alloc (w.alloc (.map #[] 0)) (.cells #[.map (some w.heap.size)] 54) w.heap.size (by simp)))
  have B0 : Hid (Below w.heap.size w ((w.alloc (.map #[] 0)).alloc (.cells #[.map (some w.heap.size)] 54))) := ((Below.refl _ _).alloc (Nat.le_refl _) _).alloc (by simp) _
  have K0 : Hid (((w.alloc (.map #[] 0)).alloc (.cells #[.map (some w.heap.size)] 54)).cell? ⟨w.heap.size + 1, 0, none⟩ = some (.map (some w.heap.size))) := by
    unfold Hid; simp [go_sem]
  have Z0 : Hid (w.heap.size + 2 ≤ ((w.alloc (.map #[] 0)).alloc (.cells #[.map (some w.heap.size)] 54)).heap.size) := by unfold Hid; simp
  go_loopw [11] (fun i wr => ∃ k : Nat, k ≤ ys.length ∧ i = .int .i64 k ∧ Hid (SetAt wr w.heap.size k (ys.take k).reverse) ∧ Below w.heap.size w wr ∧ wr.cell? ⟨w.heap.size + 1, 0, none⟩ = some (.map (some w.heap.size)) ∧ w.heap.size + 2 ≤ wr.heap.size) (fun i _ => ys.length - (intOf i).toNat)
  case atStart => exact ⟨0, by omega, rfl, S0.out, B0.out, K0.out, Z0.out⟩
  case round =>
    obtain ⟨k, hk, rfl, hset, hbw, hkc, hkz⟩ := hrel
    clear S0 B0 K0 Z0
    by_cases hlt : k < ys.length
    · rcases HQ'.out with h0 | ⟨g, off, rfl, _, hg, h3⟩
      · omega
      obtain ⟨x, y, hf, hat⟩ := h3 k hlt
      obtain ⟨xa, xc, rfl⟩ := hat.1.shape
      obtain ⟨ya, yc, rfl⟩ := hat.2.shape
      obtain ⟨f0, f1, f2, f3, f4⟩ := hf.keep hbw (by omega)
      have hki : (k : Int) < (ys.length : Int) := by omega
      have hbz := hbw.size
      have HRV := hid_mk (rev_succ ys k hlt)
      obtain ⟨hok, hcst⟩ := HY.out k hlt
      have C := hid_mk (fun W (hb' : Below w.heap.size w W) => state_of ys[k] _ _ lb hb W hok hcst (by have := hb'.size; omega) (hat.below hb' hhb) (HTT.out W hb'))
      have A := hid_mk (fun W hS => add_of ys[k] (ys.take k).reverse w.heap.size k W (by unfold maxLen; omega) (key_is _ hok hcst) hS)
      have hlS := hset.out.lt
      clear h3 hf hat hok hcst
      unfold Sn.val at C
      generalize ys[k] = s at *
      have hk1 : ∀ o : Obj, (wr.alloc o).cell? ⟨w.heap.size + 1, 0, none⟩ = some (.map (some w.heap.size)) := fun o => ((Below.refl wr.heap.size wr).alloc (Nat.le_refl _) o).cell (p := ⟨w.heap.size + 1, 0, none⟩) (by show w.heap.size + 1 < wr.heap.size; omega) |>.trans hkc
      have hk2 : ∀ o : Obj, (wr.alloc o).drew.cell? ⟨w.heap.size + 1, 0, none⟩ = some (.map (some w.heap.size)) := fun o => hk1 o
      have B1 := hid_mk (fun o : Obj => hbw.alloc hbz o)
      have S1 := hid_mk (fun o : Obj => hset.out.same (Below.heap_alloc wr o w.heap.size hlS))
      have HKZ := hid_mk hkz
      have HKC := hid_mk hkc
      clear hset hkc
      unfold Sn.key at A
      unfold Sn.key at C
      go_wp2_with fail
      go_region_with (first
        | (go_at_call 30; refine (C.out _ (B1.out _).drew).mono ?_; rintro e w2 ⟨rfl, hb2⟩; have B2 := hid_mk ((B1.out _).drew.trans (hb2.mono (show w.heap.size ≤ (wr.alloc _).heap.size from (B1.out _).size))); have hz2 : (wr.alloc _).heap.size ≤ w2.heap.size := hb2.size; simp only [World.size_alloc] at hz2; have k2 : w2.cell? ⟨w.heap.size + 1, 0, none⟩ = some (.map (some w.heap.size)) := (hb2.cell (p := ⟨w.heap.size + 1, 0, none⟩) (show w.heap.size + 1 < (wr.alloc _).heap.size by simp; omega)).trans (hk2 _); have S2 := hid_mk ((S1.out _).same (hb2.block w.heap.size (show w.heap.size < (wr.alloc _).heap.size by simp; omega))); clear hb2)
        | (go_at_call 29; refine (A.out _ S2.out).mono ?_; rintro e w3 ⟨rfl, hs3, hb3, hk3⟩; have B3 := hid_mk (B2.out.trans hb3); have S3 := hid_mk hs3; have z3 := hb3.size; have k3 : w3.cell? ⟨w.heap.size + 1, 0, none⟩ = some (.map (some w.heap.size)) := (World.cell?_of_block (a := ⟨w.heap.size + 1, 0, none⟩) (hk3 (w.heap.size + 1) (by omega) (by omega))).trans k2; clear hs3 hb3 hk3))
      all_goals go_wp2
      all_goals rw [HRV.out] at S3
      all_goals exact ⟨⟨k + 1, by omega, by go_num, S3.out, B3.out, k3, by omega⟩, by simp [intOf]; omega⟩
    · obtain rfl : k = ys.length := by omega
      rw [List.take_length] at hset
      have C := hid_mk (HI.out (w.heap.size + 1) w.heap.size ys.length wr hbw hkc (by omega) hset.out)
      have HB := hid_mk hbw
      clear hset hbw hkc HI
      go_wp2_with (go_at_call 31; refine C.out.mono ?_; rintro e w1 ⟨rfl, hb1⟩)
      go_ret
      exact ⟨rfl, HB.out.trans (hb1.mono HB.out.size)⟩

set_option maxHeartbeats 4000000 in
theorem impl_within (xs ys : List Sn) (u v : Value) (la ha lb hb : Nat) (w : World) (hx : OkS xs) (hy : OkS ys) (hc : costS xs ≤ 1048576) (hd : costS ys ≤ 1048576) (hha : ha ≤ w.heap.size) (hhb : hb ≤ w.heap.size) (h : Rw la ha w xs u) (h' : Rw lb hb w ys v) (hT : Tab w) :
    Calls Tryd.prog 8 #[u, v] w fun e w' => e = .returned (.tuple #[.int .i64 (withinT xs ys).1, .int .i64 (withinT xs ys).2]) ∧ Below w.heap.size w w' := by
  have hl20 : xs.length ≤ 1048576 := Nat.le_trans (len_cost xs) hc
  have hl21 : ys.length ≤ 1048576 := Nat.le_trans (len_cost ys) hd
  have C := hid_mk (impl_first xs ys u v la ha lb hb w hx hy hc hd hha hhb h h' hT)
  obtain ⟨a, ca, rfl⟩ := h.shape
  obtain ⟨b, cb, rfl⟩ := h'.shape
  clear h h' hc hd hx hy hT
  by_cases h1 : 4096 < xs.length
  · have e : withinT xs ys = (0, 2) := by unfold withinT; rw [if_pos (.inl h1)]
    rw [e]
    have h1i : (4096 : Int) < (xs.length : Int) := by omega
    clear e C
    go_enter Tryd.func8, Tryd.ntmps8
    go_wp2
    refine bodyPost_ret (v := .tuple #[.int .i64 0, .int .i64 2]) (by simp [results, Tryd.results8, go_sem]) rfl ⟨rfl, Below.refl _ _⟩
  · have h1i : ¬ ((4096 : Int) < (xs.length : Int)) := by omega
    by_cases h2 : 4096 < ys.length
    · have e : withinT xs ys = (0, 2) := by unfold withinT; rw [if_pos (.inr h2)]
      rw [e]
      have h2i : (4096 : Int) < (ys.length : Int) := by omega
      clear e C
      go_enter Tryd.func8, Tryd.ntmps8
      go_wp2
      refine bodyPost_ret (v := .tuple #[.int .i64 0, .int .i64 2]) (by simp [results, Tryd.results8, go_sem]) rfl ⟨rfl, Below.refl _ _⟩
    · have h2i : ¬ ((4096 : Int) < (ys.length : Int)) := by omega
      unfold missI at C
      unfold withinT
      rw [if_neg (by omega)]
      cases hm : miss xs ys with
      | none =>
        rw [hm] at C
        clear hm
        go_enter Tryd.func8, Tryd.ntmps8
        go_wp2_with fail
        refine C.out.mono ?_
        rintro e w1 ⟨rfl, hb1⟩
        clear C
        go_wp2
        refine bodyPost_ret (v := .tuple #[.int .i64 0, .int .i64 12]) (by simp [results, Tryd.results8, go_sem]) rfl ⟨rfl, hb1⟩
      | some k =>
        rw [hm] at C
        clear hm
        have hk0 : ((k : Int) == -1) = false := by simp
        go_enter Tryd.func8, Tryd.ntmps8
        go_wp2_with fail
        refine C.out.mono ?_
        rintro e w1 ⟨rfl, hb1⟩
        clear C
        go_wp2
        refine bodyPost_ret (v := .tuple #[.int .i64 (k : Int), .int .i64 0]) (by simp [results, Tryd.results8, go_sem]) rfl ⟨rfl, hb1⟩
end Go.Proofs.YtnjidekfmmebiaaDoor
