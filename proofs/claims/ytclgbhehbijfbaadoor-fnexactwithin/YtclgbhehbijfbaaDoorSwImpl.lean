/- The program's Within. -/
import Derived.Test.YtclgbhehbijfbaaDoorSwSet
import Derived.Carry
set_option linter.unusedVariables false
namespace Go.Proofs.YtclgbhehbijfbaaDoor
open Go.RowKit

theorem hit_rev (s : Sn) (m : List Sn) : hitB s m.reverse = hitB s m := by simp [hitB]
theorem rev_succ (ys : List Sn) (k : Nat) (h : k < ys.length) : ys[k] :: (ys.take k).reverse = (ys.take (k + 1)).reverse := by
  rw [List.take_succ_eq_append_getElem h, List.reverse_append]; rfl
theorem key_is (s : Sn) (hs : s.Ok) (hc : s.cost ≤ 1048576) : ∃ l, keyOf Tryd.prog 42 s.key = some l := by
  refine key_of s hs ?_
  have := traceB_len s.tr hs.2.1.2
  unfold Sn.cost at hc
  unfold maxLen
  omega

set_option maxHeartbeats 8000000 in
set_option maxRecDepth 100000 in
theorem impl_within (xs ys : List Sn) (u v : Value) (la ha lb hb : Nat) (w : World) (hx : OkS xs) (hy : OkS ys) (hc : costS xs ≤ 1048576) (hd : costS ys ≤ 1048576) (hha : ha ≤ w.heap.size) (hhb : hb ≤ w.heap.size) (h : Rw la ha w xs u) (h' : Rw lb hb w ys v) (hT : Tab w) :
    Calls Tryd.prog 13 #[u, v] w fun e w' => e = .returned (.tuple #[.int .i64 (withinT xs ys).1, .int .i64 (withinT xs ys).2]) ∧ Below w.heap.size w w' := by
  have hl20 : xs.length ≤ 1048576 := Nat.le_trans (len_cost xs) hc
  have hl21 : ys.length ≤ 1048576 := Nat.le_trans (len_cost ys) hd
  obtain ⟨a, ca, rfl, hq⟩ := h
  obtain ⟨b, cb, rfl, hq'⟩ := h'
  have HQ := hid_mk hq
  have HQ' := hid_mk hq'
  have HX := hid_mk (fun i (hi : i < xs.length) => And.intro (hx.at i hi) (Nat.le_trans (cost_at xs i hi) hc))
  have HY := hid_mk (fun i (hi : i < ys.length) => And.intro (hy.at i hi) (Nat.le_trans (cost_at ys i hi) hd))
  have HTT := hid_mk (fun W (hb : Below w.heap.size w W) => Tab.later (B := 0) hT hb)
  clear hq hq' hc hd hx hy hT
  by_cases h1 : 4096 < xs.length
  · have e : withinT xs ys = (0, 2) := by unfold withinT; rw [if_pos (.inl h1)]
    rw [e]
    have h1i : (4096 : Int) < (xs.length : Int) := by omega
    clear e
    go_enter Tryd.func13, Tryd.ntmps13
    go_wp2
    refine bodyPost_ret (v := .tuple #[.int .i64 0, .int .i64 2]) (by simp [results, Tryd.results13, go_sem]) rfl ⟨rfl, Below.refl _ _⟩
  · have h1i : ¬ ((4096 : Int) < (xs.length : Int)) := by omega
    by_cases h2 : 4096 < ys.length
    · have e : withinT xs ys = (0, 2) := by unfold withinT; rw [if_pos (.inr h2)]
      rw [e]
      have h2i : (4096 : Int) < (ys.length : Int) := by omega
      clear e
      go_enter Tryd.func13, Tryd.ntmps13
      go_wp2
      refine bodyPost_ret (v := .tuple #[.int .i64 0, .int .i64 2]) (by simp [results, Tryd.results13, go_sem]) rfl ⟨rfl, Below.refl _ _⟩
    · have h2i : ¬ ((4096 : Int) < (ys.length : Int)) := by omega
      have HW : Hid (withinT xs ys = match miss xs ys with | some k => ((k : Int), 0) | none => (0, 12)) := by unfold Hid withinT; rw [if_neg (by omega)]; cases miss xs ys <;> rfl
      have hmm := @run_makeMap Tryd.prog
      go_enter Tryd.func13, Tryd.ntmps13
      go_wp2
      clear hmm
      have S0 := hid_mk (set_made w)
      have B0 : Hid (Below w.heap.size w (w.alloc (.map #[] 0))) := (Below.refl _ _).alloc (Nat.le_refl _) _
      go_loopw [22] (fun i wr => ∃ k : Nat, k ≤ ys.length ∧ i = .int .i64 k ∧ Hid (SetAt wr w.heap.size k (ys.take k).reverse) ∧ Below w.heap.size w wr) (fun i _ => ys.length - (intOf i).toNat)
      case atStart => exact ⟨0, by omega, rfl, S0.out, B0.out⟩
      case round =>
        obtain ⟨k, hk, rfl, hset, hbw⟩ := hrel
        clear S0 B0
        by_cases hlt : k < ys.length
        · rcases HQ'.out with h0 | ⟨g, off, rfl, _, hg, h3⟩
          · omega
          obtain ⟨x, y, hf, hat⟩ := h3 k hlt
          obtain ⟨xa, xc, rfl⟩ := hat.1.shape
          obtain ⟨ya, yc, rfl⟩ := hat.2.shape
          obtain ⟨f0, f1, f2, f3, f4⟩ := hf.keep hbw (by omega)
          have hki : (k : Int) < (ys.length : Int) := by omega
          have hbz := hbw.size
          have HRV := hid_mk (rev_succ ys k hlt)
          obtain ⟨hok, hcst⟩ := HY.out k hlt
          have C := hid_mk (fun W (hb' : Below w.heap.size w W) => state_of ys[k] _ _ lb hb W hok hcst (by have := hb'.size; omega) (hat.below hb' hhb) (HTT.out W hb'))
          have A := hid_mk (fun W hS => add_of ys[k] (ys.take k).reverse w.heap.size k W (by unfold maxLen; omega) (key_is _ hok hcst) hS)
          have hlS := hset.out.lt
          clear h3 hf hat hok hcst
          unfold Sn.val at C
          generalize ys[k] = s at *
          go_wp2_with fail
          have B1 : Hid (Below w.heap.size w (wr.alloc (.cells #[.int .i64 s.k, .int .i64 s.c, .int .i64 s.v, .slice xa s.tr.length xc, .slice ya s.sc.length yc] 27))) := hbw.alloc hbz _
          have S1 := hid_mk (hset.out.same (Below.heap_alloc wr (.cells #[.int .i64 s.k, .int .i64 s.c, .int .i64 s.v, .slice xa s.tr.length xc, .slice ya s.sc.length yc] 27) w.heap.size hlS))
          refine (C.out _ B1.out).mono ?_
          rintro e w2 ⟨rfl, hb2⟩
          have hz2 := hb2.size
          simp only [World.size_alloc] at hz2
          have B2 := hid_mk (B1.out.trans (hb2.mono (by simp; omega)))
          have S2 := hid_mk (S1.out.below hb2 (by simp; omega))
          have AA := hid_mk (A.out w2 S2.out)
          clear hb2 f0 f1 f2 f3 f4 S1 B1 C A hset hbw
          unfold Sn.key at AA
          unfold Sn.key
          go_wp2_with fail
          refine AA.out.mono ?_
          rintro e w3 ⟨rfl, hs3, hb3⟩
          rw [HRV.out] at hs3
          have S3 := hid_mk hs3
          have B3 := hid_mk (B2.out.trans hb3)
          clear hs3 hb3 AA S2 B2 HRV
          go_wp2
          exact ⟨⟨k + 1, by omega, by go_num, S3.out, B3.out⟩, by simp [intOf]; omega⟩
        · obtain rfl : k = ys.length := by omega
          rw [List.take_length] at hset
          have S0 := hid_mk hset.out
          have B0 := hid_mk hbw
          rename World => wo
          clear hset hbw
          go_wp2
          go_loopw [33] (fun i wr => ∃ j : Nat, j ≤ xs.length ∧ i = .int .i64 j ∧ Hid (SetAt wr w.heap.size ys.length ys.reverse) ∧ Below w.heap.size w wr ∧ Hid (∀ k (hk : k < xs.length), k < j → hitB xs[k] ys = true)) (fun i _ => xs.length - (intOf i).toNat)
          case atStart => exact ⟨0, by omega, rfl, S0.out, B0.out, fun k _ hk => absurd hk (Nat.not_lt_zero _)⟩
          case round =>
            obtain ⟨j, hj, rfl, hset, hbw, hit⟩ := hrel
            clear S0 B0
            by_cases hlt : j < xs.length
            · rcases HQ.out with h0 | ⟨g, off, rfl, _, hg, h3⟩
              · omega
              obtain ⟨x, y, hf, hat⟩ := h3 j hlt
              obtain ⟨xa, xc, rfl⟩ := hat.1.shape
              obtain ⟨ya, yc, rfl⟩ := hat.2.shape
              obtain ⟨f0, f1, f2, f3, f4⟩ := hf.keep hbw (by omega)
              have hji : (j : Int) < (xs.length : Int) := by omega
              have hbz := hbw.size
              obtain ⟨hok, hcst⟩ := HX.out j hlt
              have C := hid_mk (fun W (hb' : Below w.heap.size w W) => state_of xs[j] _ _ la ha W hok hcst (by have := hb'.size; omega) (hat.below hb' hha) (HTT.out W hb'))
              have A := hid_mk (fun W hS => has_of xs[j] ys.reverse w.heap.size ys.length W (key_is _ hok hcst) hS)
              have HIT1 : Hid (hitB xs[j] ys = true → ∀ k (hk : k < xs.length), k < j + 1 → hitB xs[k] ys = true) := by
                intro h k hk hkj
                by_cases e : k = j
                · subst e; exact h
                · exact hit.out k hk (by omega)
              have HIT2 : Hid (hitB xs[j] ys = false → withinT xs ys = ((j : Int), 0)) := by
                intro h
                rw [HW.out, miss_some hlt hit.out h]
              rw [hit_rev] at A
              have hlS := hset.out.lt
              clear h3 hf hat hok hcst hit HW
              unfold Sn.val at C
              generalize xs[j] = s at *
              go_wp2_with fail
              have B1 : Hid (Below w.heap.size w (wr.alloc (.cells #[.int .i64 s.k, .int .i64 s.c, .int .i64 s.v, .slice xa s.tr.length xc, .slice ya s.sc.length yc] 27))) := hbw.alloc hbz _
              have S1 := hid_mk (hset.out.same (Below.heap_alloc wr (.cells #[.int .i64 s.k, .int .i64 s.c, .int .i64 s.v, .slice xa s.tr.length xc, .slice ya s.sc.length yc] 27) w.heap.size hlS))
              refine (C.out _ B1.out).mono ?_
              rintro e w2 ⟨rfl, hb2⟩
              have hz2 := hb2.size
              simp only [World.size_alloc] at hz2
              have B2 := hid_mk (B1.out.trans (hb2.mono (by simp; omega)))
              have S2 := hid_mk (S1.out.below hb2 (by simp; omega))
              have AA := hid_mk (A.out w2 S2.out)
              clear hb2 f0 f1 f2 f3 f4 S1 B1 C A hset hbw
              unfold Sn.key at AA
              unfold Sn.key
              cases hq : hitB s ys with
              | true =>
                have H1 := hid_mk (HIT1.out hq)
                rw [hq] at AA
                clear hq HIT1 HIT2
                go_wp2_with fail
                refine AA.out.mono ?_
                rintro e w3 ⟨rfl, hb3⟩
                have S3 := hid_mk (S2.out.below hb3 (by omega))
                have B3 := hid_mk (B2.out.trans (hb3.mono (by omega)))
                clear hb3 AA S2 B2
                go_wp2
                exact ⟨⟨j + 1, by omega, by go_num, S3.out, B3.out, H1.out⟩, by simp [intOf]; omega⟩
              | false =>
                have H2 := hid_mk (HIT2.out hq)
                rw [hq] at AA
                clear hq HIT1 HIT2
                go_wp2_with fail
                refine AA.out.mono ?_
                rintro e w3 ⟨rfl, hb3⟩
                have B3 := hid_mk (B2.out.trans (hb3.mono (by omega)))
                clear hb3 AA S2 B2
                go_wp2
                refine bodyPost_ret (v := .tuple #[.int .i64 (j : Int), .int .i64 0]) (by simp [results, Tryd.results13, go_sem]) rfl ⟨?_, B3.out⟩
                rw [H2.out]
            · obtain rfl : j = xs.length := by omega
              have e : withinT xs ys = (0, 12) := by rw [HW.out, miss_none fun k hk => hit.out k hk hk]
              have HE := hid_mk e
              clear e hit HW
              go_wp2
              refine bodyPost_ret (v := .tuple #[.int .i64 0, .int .i64 12]) (by simp [results, Tryd.results13, go_sem]) rfl ⟨?_, hbw⟩
              rw [HE.out]
end Go.Proofs.YtclgbhehbijfbaaDoor
