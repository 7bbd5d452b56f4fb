/- The program's firstUnlike: the set of the keys, and the first that is not in it. -/
import Derived.Test.YtnjidekfmmebiaaDoorSwSet
import Derived.Carry
import Derived.RegionTactic
import Derived.Deep.RegionWith
set_option linter.unusedVariables false
namespace Go.Proofs.YtnjidekfmmebiaaDoor
open Go.RowKit

theorem hit_rev (s : Sn) (m : List Sn) : hitB s m.reverse = hitB s m := by simp [hitB]
theorem rev_succ (ys : List Sn) (k : Nat) (h : k < ys.length) : ys[k] :: (ys.take k).reverse = (ys.take (k + 1)).reverse := by
  rw [List.take_succ_eq_append_getElem h, List.reverse_append]; rfl
theorem key_is (s : Sn) (hs : s.Ok) (hc : s.cost ≤ 1048576) : ∃ l, keyOf Tryd.prog 57 s.key = some l := by
  refine key_of s hs ?_
  have := traceB_len s.tr hs.2.1.2
  unfold Sn.cost at hc
  unfold maxLen
  omega

set_option maxHeartbeats 4000000 in
set_option maxRecDepth 100000 in
theorem unlike_any (s : Sn) (x y : Value) (ys : List Sn) (la ha kb mb n : Nat) (w : World) (hok : s.Ok) (hc : s.cost ≤ 1048576) (hha : ha ≤ w.heap.size) (hat : At la ha w s x y) (hT : Tab w) (hbx : w.cell? ⟨kb, 0, none⟩ = some (.map (some mb))) (hkb : kb < w.heap.size) (hset : SetAt w mb n ys.reverse) :
    Calls Tryd.prog 32 #[s.val x y, .pointer (some ⟨kb, 0, none⟩)] w fun e w' => e = .returned (.bool (!hitB s ys)) ∧ Below w.heap.size w w' := by
  obtain ⟨xa, xc, rfl⟩ := hat.1.shape
  obtain ⟨ya, yc, rfl⟩ := hat.2.shape
  have hlS := hset.lt
  have C := hid_mk (fun W (hb : Below w.heap.size w W) => state_of s _ _ la ha W hok hc (by have := hb.size; omega) (hat.below hb hha) (Tab.later (B := 0) hT hb))
  have A := hid_mk (fun W (hb : Below w.heap.size w W) => has_of s ys.reverse mb n W (key_is _ hok hc) (hset.below hb hlS))
  rw [hit_rev] at A
  have BX := hid_mk (fun W (hb : Below w.heap.size w W) => (hb.cell (p := ⟨kb, 0, none⟩) hkb).trans hbx)
  have B0 : ∀ o : Obj, Hid (Below w.heap.size w (w.alloc o)) := fun o => (Below.refl _ _).alloc (Nat.le_refl _) _
  have B00 : Hid (Below w.heap.size w w) := Below.refl _ _
  clear hat hT hset hok hc
  unfold Sn.val at *
  unfold Sn.key at *
  generalize hitB s ys = bq at *
  go_enter Tryd.func32, Tryd.ntmps32
  have hk1 : ∀ o : Obj, (w.alloc o).cell? ⟨kb, 0, none⟩ = some (.map (some mb)) := fun o => BX.out _ (B0 o).out
  have hk2 : ∀ o : Obj, (w.alloc o).drew.cell? ⟨kb, 0, none⟩ = some (.map (some mb)) := fun o => BX.out _ (B0 o).out.drew
  go_wp2_with fail
  go_region_with (first
    | (go_at_call 30; refine (C.out _ (B0 _).out.drew).mono ?_; rintro e w1 ⟨rfl, hb1⟩; have B1 := hid_mk ((B0 _).out.drew.trans (hb1.mono (by show w.heap.size ≤ (w.alloc _).heap.size; simp))); have k1 := BX.out _ B1.out; clear hb1)
    | (go_at_call 33; refine (A.out _ B1.out).mono ?_; rintro e w2 ⟨rfl, hb2⟩; have B2 := hid_mk (B1.out.trans (hb2.mono B1.out.size)); clear hb2))
  all_goals go_wp2
  all_goals go_ret
  all_goals exact ⟨rfl, B2.out⟩

set_option maxHeartbeats 8000000 in
set_option maxRecDepth 100000 in
theorem index_unlike (xs ys : List Sn) (u : Value) (la ha kb mb n : Nat) (w : World) (hx : OkS xs) (hc : costS xs ≤ 1048576) (hha : ha ≤ w.heap.size) (h : Rw la ha w xs u) (hT : Tab w) (hbx : w.cell? ⟨kb, 0, none⟩ = some (.map (some mb))) (hkb : kb < w.heap.size) (hset : SetAt w mb n ys.reverse) :
    Calls Tryd.prog 31 #[u, .func (.func 32) #[] #[.pointer (some ⟨kb, 0, none⟩)]] w fun e w' => e = .returned (.int .i64 (missI xs ys)) ∧ Below w.heap.size w w' := by
  have hl20 : xs.length ≤ 1048576 := Nat.le_trans (len_cost xs) hc
  obtain ⟨a, ca, rfl, hq⟩ := h
  have hlS := hset.lt
  have HQ := hid_mk hq
  have HX := hid_mk (fun i (hi : i < xs.length) => And.intro (hx.at i hi) (Nat.le_trans (cost_at xs i hi) hc))
  have HU := hid_mk (fun (s : Sn) (x y : Value) W (hok : s.Ok) (hcs : s.cost ≤ 1048576) (hb : Below w.heap.size w W) (hat : At la ha w s x y) => unlike_any s x y ys la ha kb mb n W hok hcs (by have := hb.size; omega) (hat.below hb hha) (Tab.later (B := 0) hT hb) ((hb.cell (p := ⟨kb, 0, none⟩) hkb).trans hbx) (by have := hb.size; omega) (hset.below hb hlS))
  clear hq hc hx hT hbx hset
  go_enter Tryd.func31, Tryd.ntmps31
  go_wp2
  go_loopw [8] (fun i wr => ∃ j : Nat, j ≤ xs.length ∧ i = .int .i64 j ∧ Below w.heap.size w wr ∧ Hid (∀ k (hk : k < xs.length), k < j → hitB xs[k] ys = true)) (fun i _ => xs.length - (intOf i).toNat)
  case atStart => exact ⟨0, by omega, rfl, Below.refl _ _, fun k _ hk => absurd hk (Nat.not_lt_zero _)⟩
  case round =>
    obtain ⟨j, hj, rfl, hbw, hit⟩ := hrel
    by_cases hlt : j < xs.length
    · rcases HQ.out with h0 | ⟨g, off, rfl, _, hg, h3⟩
      · omega
      obtain ⟨x, y, hf, hat⟩ := h3 j hlt
      obtain ⟨f0, f1, f2, f3, f4⟩ := hf.keep hbw (by omega)
      have hji : (j : Int) < (xs.length : Int) := by omega
      obtain ⟨hok, hcst⟩ := HX.out j hlt
      have C := hid_mk (HU.out xs[j] x y wr hok hcst hbw hat)
      obtain ⟨xa, xc, rfl⟩ := hat.1.shape
      obtain ⟨ya, yc, rfl⟩ := hat.2.shape
      have HIT1 : Hid (hitB xs[j] ys = true → ∀ k (hk : k < xs.length), k < j + 1 → hitB xs[k] ys = true) := by
        intro h k hk hkj
        by_cases e : k = j
        · subst e; exact h
        · exact hit.out k hk (by omega)
      have HIT2 : Hid (hitB xs[j] ys = false → missI xs ys = (j : Int)) := by
        intro h
        unfold missI
        rw [miss_some hlt hit.out h]
      clear h3 hf hat hok hcst hit
      unfold Sn.val at C
      generalize xs[j] = s at *
      cases hq : hitB s ys with
      | true =>
        have H1 := hid_mk (HIT1.out hq)
        rw [hq] at C
        clear hq HIT1 HIT2
        go_wp2_with (go_at_call 32; refine C.out.mono ?_; rintro e w1 ⟨rfl, hb1⟩)
        exact ⟨⟨j + 1, by omega, by go_num, hbw.trans (hb1.mono hbw.size), H1.out⟩, by simp [intOf]; omega⟩
      | false =>
        have H2 := hid_mk (HIT2.out hq)
        rw [hq] at C
        clear hq HIT1 HIT2
        go_wp2_with (go_at_call 32; refine C.out.mono ?_; rintro e w1 ⟨rfl, hb1⟩)
        go_ret
        exact ⟨by rw [H2.out]; rfl, hbw.trans (hb1.mono hbw.size)⟩
    · obtain rfl : j = xs.length := by omega
      have e : missI xs ys = -1 := by unfold missI; rw [miss_none fun k hk => hit.out k hk hk]
      have HE := hid_mk e
      clear e hit
      go_wp2
      go_ret
      exact ⟨by rw [HE.out]; rfl, hbw⟩
end Go.Proofs.YtnjidekfmmebiaaDoor
