import Derived.Test.YteaocammohcgoaaGreatDoorVKfA
import Derived.Test.YteaocammohcgoaaGreatDoorVKaWalk
import Derived.Test.YteaocammohcgoaaGreatDoorVKdP
set_option linter.unusedVariables false
set_option maxHeartbeats 16000000
set_option maxRecDepth 100000
namespace Go.Proofs.YteaocammohcgoaaGreatDoor
open Go.RowKit
variable {G : Prop}
theorem bR0 (h : G := by
 rw [hk, e2, Bool.false_and]
 clear hr hq ih
 exact bR6) : G := h
theorem bR1 (h : G := by
 exact cZ.grown gp (by have := cZ.size; omega) (fun k e => by have := Option.some.inj e; omega)) : G := h
theorem bR2 (h : G := by
 clear hq hr ih
 go_enter Tryz.func105, Tryz.ntmps105
 go_wp2
 go_ret
 exact ⟨rfl, fp.out _⟩) : G := h
theorem bR3 (h : G := by
 clear hr hq ih
 exact bR6) : G := h
theorem Qq (h : G := by
 intro W hW
 obtain ⟨x0, x1⟩ := hW
 go_simp
 with_reducible rfl) : G := h
theorem bR5 (h : G := by
 go_ret
 exact ⟨rfl, (fp.out _).trans (hb1.mono (by simp))⟩) : G := h
theorem bR6 (h : G := by
 go_enter Tryz.func94, Tryz.ntmps94
 go_wp2
 go_ret
 exact ⟨rfl, fp.out _⟩) : G := h
theorem bR7 (h : G := by
 clear hM
 go_wp2
 refine wp_region_held_drew (S := (fun W => W.cell? ⟨wr.heap.size, 1, none⟩ = some (.int .i64 (T.kids n).num) ∧ W.cell? ⟨wr.heap.size, 2, none⟩ = some (.string (T.kids n).name))) bH ?_ (fun eG => ?_)
 ·exact ⟨d1, d2⟩
 refine wpAnyH_take (i := 0) (v := ?_) rfl (by kernel_rfl) (by kernel_rfl) (by kernel_rfl) (fun _ _ _ h => h) (Or.inl ⟨by rfl, ?_⟩) eG ?_
 rotate_left
 ·exact Qq
 simp only [Act.put, List.setIfInBounds_toArray]
 refine wpAnyH_take (i := 1) (v := ?_) rfl (by kernel_rfl) (by kernel_rfl) (by kernel_rfl) (fun _ _ _ h => h) (Or.inl ⟨by rfl, ?_⟩) eG ?_
 rotate_left
 ·exact Qq
 simp only [Act.put]
 refine wpAnyH_take (i := 2) (v := ?_) rfl (by kernel_rfl) (by kernel_rfl) (by kernel_rfl) (fun _ _ _ h => h) (Or.inl ⟨by rfl, ?_⟩) eG ?_
 rotate_left
 ·exact Qq
 simp only [Act.put]
 refine wpAnyH_take (i := 3) (v := ?_) rfl (by kernel_rfl) (by kernel_rfl) (by kernel_rfl) (fun _ _ _ h => h) (Or.inl ⟨by rfl, ?_⟩) eG ?_
 rotate_left
 ·exact Qq
 simp only [Act.put]
 refine wpAnyH_take (i := 4) (v := ?_) rfl (by kernel_rfl) (by kernel_rfl) (by kernel_rfl) (fun _ _ _ h => h) (Or.inl ⟨by rfl, ?_⟩) eG ?_
 rotate_left
 ·exact Qq
 simp only [Act.put]
 refine wpAnyH_take (i := 5) (v := ?_) rfl (by kernel_rfl) (by kernel_rfl) (by kernel_rfl) (fun _ _ _ h => h) (Or.inl ⟨by rfl, ?_⟩) eG ?_
 rotate_left
 ·exact Qq
 simp only [Act.put]
 refine wpAnyH_ready (rs := [6]) (by kernel_rfl) (by simp) ?_
 refine AllReadyH.cons rfl (fun K' hK => ?_) AllReadyH.nil
 rw [if_pos (by rfl)]
 go_wp2_with (go_at_call 69; refine J3.out.mono ?_; rintro e w4 ⟨rfl, gh⟩; obtain ⟨d0, d1, d2, d3⟩ := al (lF.out _ _ _ _ _ gh); have mb := aa gh; clear gh)
 refine hK.out _ _ ⟨d1, d2⟩ (fun tw => ?_)
 refine wpAnyH_ready (rs := [7]) (by kernel_rfl) (by simp) ?_
 refine AllReadyH.cons rfl (fun K' hK => ?_) AllReadyH.nil
 rw [if_pos (by rfl)]
 first
 |clear k_R7_0
  go_wp2_with (go_at_call 91; refine (dr (Cv.out _ mb.out) FQ.out).mono ?_; rintro e w5 ⟨rfl, qY⟩)
  refine ⟨rfl, ?_⟩
  rw [fR qF.out]
  exact ⟨rfl, (Cs.out _ _ _ _ _ mb.out).trans qY⟩
 |clear k_R7_1
  go_wp2_with (go_at_call 91; refine (cw (Cv.out _ mb.out) FQ.out).mono ?_; rintro e w5 ⟨rfl, jh⟩; obtain ⟨d0, d1, d2, d3⟩ := al (lF.out _ _ _ _ _ jh); have mY := aa jh; clear jh)
  refine hK.out _ _ ⟨d1, d2⟩ (fun xQ => ?_)
  refine wpAnyH_done (by kernel_rfl) ?_ _
  go_wp2
  exact ⟨⟨n + 1, by omega, by go_num, s1, by rw [kG.out, FQ.out], rp.out _ _ _ _ _ mY.out⟩, by simp [intOf]; omega⟩) : G := h
theorem bR8 (h : G := by
 rw [he] at Gt
 clear h0 wk he
 go_wp2_with (first
  |(go_at_call 92; refine (cw kz.out FQ.out).mono ?_; rintro e w4 ⟨rfl, gh⟩; obtain ⟨b0, b1, b2, b3⟩ := al (cP.out _ _ _ _ _ (rp.out _ _ _ _ _ gh)); obtain ⟨d0, d1, d2, d3⟩ := al (lF.out _ _ _ _ _ gh); have mb := aa gh; clear gh)
  |(go_at_call 93; refine (yy.out _ mb.out).mono ?_; rintro e w5 ⟨rfl, jh⟩; obtain ⟨b0, b1, b2, b3⟩ := al (cP.out _ _ _ _ _ (rp.out _ _ _ _ _ jh)); obtain ⟨d0, d1, d2, d3⟩ := al (lF.out _ _ _ _ _ jh); have mY := aa jh; clear jh)
  |(go_at_call 94; refine (Gt.out _ (Cs.out _ _ _ _ _ mY.out)).mono ?_; rintro e w6 ⟨rfl, oU⟩))
 first
 |clear k_R8_0
  go_end0
  rw [lD oY.out]
  exact ⟨rfl, (eB.out _ _ _ _ _ (rp.out _ _ _ _ _ mY.out)).calm oU⟩
 |clear k_R8_1
  refine ⟨rfl, ?_⟩
  rw [fR qF.out]
  exact ⟨rfl, (Cs.out _ _ _ _ _ mY.out).trans (oU.mono (by have := (Cs.out _ _ _ _ _ mY.out).size; omega))⟩) : G := h
theorem bR9 (h : G := by
 refine callsIn_of_wp Tryz.func136 rfl trivial ?_ rfl
 simp only [Tryz.ntmps136, List.size_toArray, List.length_cons, List.length_nil, Nat.reduceAdd, Nat.reduceSub, Array.replicate_succ, Array.replicate_zero, List.push_toArray, List.append_toArray, List.nil_append, List.cons_append]
 first
 |clear k_R9_0
  have hw0 : IntKind.i64.wrap ((0 : Int) - 1) = -1 := by decide
  gi_wp2
  gi_loopw [3] (fun i wr => i = .int .i64 (-1) ∧ J [] wr) (fun _ _ => 0)
  case atStart => exact ⟨rfl, h0⟩
  case round =>
   obtain ⟨rfl, NO⟩ := hrel
   gi_wp2
   go_end0
   exact ⟨⟨_, rfl⟩, NO⟩
 |clear k_R9_1
  have hw0 : IntKind.i64.wrap ((len : Int) - 1) = (len : Int) - 1 := by simp [IntKind.wrap, IntKind.bits, IntKind.signed]; omega
  gi_wp2
  gi_loopw [3] (fun i wr => ∃ pre : List (Nat × Nat), pre.length ≤ len ∧ i = .int .i64 ((len : Int) - 1 - pre.length) ∧ J pre wr ∧ wr.heap[br]? = W.heap[br]? ∧ wr.heap[g]? = W.heap[g]?) (fun i _ => (intOf i + 1).toNat)
  case atStart => exact ⟨[], by simp, by simp, h0, rfl, rfl⟩
  case round =>
   obtain ⟨pre, hk, hi, NO, hb1, ba⟩ := hrel
   have HJ := aa NO
   clear hw0 h0
   by_cases bN : pre.length < len
   ·obtain ⟨j, hj⟩ : ∃ j, pre.length + j + 1 = len := ⟨len - 1 - pre.length, by omega⟩
    obtain ⟨b, gE⟩ : ∃ b, bs[pre.length]? = some b := ⟨_, List.getElem?_eq_getElem (by omega)⟩
    have iY : (len : Int) - 1 - pre.length = (j : Int) := by omega
    rw [iY] at hi
    subst hi
    have q0 : wr.cell? ⟨br, 0, none⟩ = some (.slice (some ⟨g, off, none⟩) len cap) := by rw [← fs]; simp only [World.cell?, hb1]
    have q1 : wr.cell? ⟨g, off + j, none⟩ = some (.map (some b)) := by rw [← hc _ _ _ hj gE]; simp only [World.cell?, ba]
    have vZ : IntKind.i64.wrap ((j : Int) - 1) = (j : Int) - 1 := by simp [IntKind.wrap, IntKind.bits, IntKind.signed]; omega
    have tT : j < len := by omega
    obtain ⟨fn, tmps, assign, body, hy, hR⟩ := hY pre (j, b) wr NO ⟨by show pre.length + j + 1 = _; omega, gE⟩
    dsimp only [Jr] at hy
    have eB := aa hb1
    have jZ := aa ba
    have HJN := aa hj
    have HZ := aa (EX _ _ NO)
    have HL := aa hlen
    clear hb1 ba hc fs iY hk bN gE hj hlen NO EX
    gi_wp2
    refine hR.mono ?_
    rintro e W3 (⟨rfl, hJ3, qL⟩ | ⟨rfl, hJx3⟩)
    ·have QC := aa hJ3
     have PG := aa qL
     clear hJ3 qL hy hR q0 q1
     gi_wp2
     go_roundw
     case rel =>
      have hj := HJN.out
      have hz := HZ.out
      refine ⟨pre ++ [(j, b)], by simp; omega, by simp; omega, QC.out, ?_, ?_⟩
      ·exact (PG.out.same br (by omega) (fun h => h.elim (fun h => (hm _ h).1 rfl) (fun h => by omega))).trans eB.out
      ·exact (PG.out.same g (by omega) (fun h => h.elim (fun h => (hm _ h).2 rfl) (fun h => by omega))).trans jZ.out
     case measure => simp [intOf]; try omega
    ·gi_wp2
     refine bodyPost_ret (results_none rfl _ _ _) rfl ?_
     exact ⟨⟨_, rfl⟩, .inr ⟨_, trivial, hJx3⟩⟩
   ·have hke : pre.length = len := by omega
    have iY : (len : Int) - 1 - pre.length = -1 := by omega
    rw [iY] at hi
    subst hi
    have HE : Hid (pre.length = bs.length) := by unfold Hid; omega
    clear iY hke bN hk NO hc fs hb1 ba hlen
    gi_wp2
    go_end0
    exact ⟨⟨_, rfl⟩, .inl ⟨_, HE.out, HJ.out⟩⟩) : G := h
section
open Go.RowKit Go.Shelf
attribute [local go_sem] Oper.semAt_some
def Jr (x : Nat × Nat) : Array Value := #[.int .i64 (x.1 : Int), .map (some x.2)]
def LJ (bs : List Nat) (pre : List (Nat × Nat)) (x : Nat × Nat) : Prop := pre.length + x.1 + 1 = bs.length ∧ bs[pre.length]? = some x.2
theorem Od (a : Option Addr) (len cap : Nat) (w : World) :
  Calls Tryz.prog 132 #[.slice a len cap] w fun e w' => e = .returned (.func (.func 136) #[] #[.pointer (some ⟨w.heap.size, 0, none⟩)]) ∧ w' = w.alloc (.cells #[.slice a len cap] 74) := by
 go_enter Tryz.func132, Tryz.ntmps132
 go_wp2
 go_ret
 exact ⟨rfl, rfl⟩
theorem Oc (n : Nat) (br l cap : Nat) (a : Option Addr) (J : List (Nat × Nat) → World → Prop) (W : World) (hc : W.cell? ⟨br, 0, none⟩ = some (.slice a 0 cap)) (h0 : J [] W) :
  CallsIn Fence.wide n Tryz.prog 136 #[.func (.yield l) #[] #[], .pointer (some ⟨br, 0, none⟩)] W fun e W' => (∃ v, e = .returned v) ∧ J [] W' := by
 have k_R9_0 := kk
 exact bR9
theorem Ux (n : Nat) (hn : 1 ≤ n) (B br g off len cap l : Nat) (bs : List Nat) (hlen : bs.length = len) (iB : 0 < len) (hlim : len ≤ 1099511627776) (mine : Nat → Prop) (J Jx : List (Nat × Nat) → World → Prop) (W : World) (hbr : br < B) (hg : g < B) (hm : ∀ k, mine k → k ≠ br ∧ k ≠ g)
    (EX : ∀ pre A, J pre A → B + 2 ≤ A.heap.size)
    (hY : ∀ pre x W1, J pre W1 → LJ bs pre x → YieldAt Fence.wide (n - 1) Tryz.prog l (Jr x) W1 fun e W' =>
      (e = .returned (.bool true) ∧ J (pre ++ [x]) W' ∧ KeptF (fun k => mine k ∨ k = B + 1) W1 W') ∨ (e = .returned (.bool false) ∧ Jx (pre ++ [x]) W'))
    (h0 : J [] W) (fs : W.cell? ⟨br, 0, none⟩ = some (.slice (some ⟨g, off, none⟩) len cap))
    (hc : ∀ k j b, k + j + 1 = len → bs[k]? = some b → W.cell? ⟨g, off + j, none⟩ = some (.map (some b))) :
    CallsIn Fence.wide n Tryz.prog 136 #[.func (.yield l) #[] #[], .pointer (some ⟨br, 0, none⟩)] W fun e W' => (∃ v, e = .returned v) ∧ ((∃ xs : List (Nat × Nat), xs.length = bs.length ∧ J xs W') ∨ (∃ pre, True ∧ Jx pre W')) := by
  have k_R9_1 := kk
  exact bR9
end
section
open Go.RowKit Go.Shelf
attribute [local go_sem] Oper.semAt_some
theorem A0 {l : List (ByteArray × Int)} (E : Sc) (t : ByteArray) (hf : ∀ q ∈ l, q.2 ≠ 0) : look (l :: E) t = if me l t = 0 then look E t else me l t := by
 unfold look me
 rw [List.flatten_cons, List.find?_append]
 cases h : l.find? (fun p => decide (p.1 = t)) with
 |none => simp
 |some q =>
  have := hf q (List.mem_of_find?_eq_some h)
  simp [this]
theorem Mps.at {w : World} {up : Nat} : ∀ {bs : List Nat} {E : Sc}, Mps w up bs E → ∀ {k b : Nat}, bs[k]? = some b → ∃ l, E[k]? = some l ∧ MapAt w b l.length (KE l)
 |[], [], _, k, b, hb => by simp at hb
 |b0 :: bs, l :: E, h, 0, b, hb => by simp at hb; subst hb; exact ⟨l, rfl, h.1⟩
 |b0 :: bs, l :: E, h, k + 1, b, hb => by simp at hb; simpa using h.2.2.2.at hb
 |[], _ :: _, h, _, _, _ => h.elim
 |_ :: _, [], h, _, _, _ => h.elim
structure VrI (w : World) (E : Sc) (t : ByteArray) (pre : List (Nat × Nat)) (W : World) : Prop where
 below : Below w.heap.size w W
 res : Boxed W (w.heap.size + 1) 3 (.int .i64 0)
 nm : Boxed W w.heap.size 9 (.string t)
 look : look E t = look (E.drop pre.length) t
 size : w.heap.size + 3 ≤ W.heap.size
structure VrX (w : World) (E : Sc) (t : ByteArray) (c : Code) (W : World) : Prop where
 ret : c = .ret
 below : Below w.heap.size w W
 res : Boxed W (w.heap.size + 1) 3 (.int .i64 (look E t))
 ne : look E t ≠ 0
 size : w.heap.size + 3 ≤ W.heap.size
theorem Gz (K : IK) (w0 : World) (O : Nat → Prop) (s : CS) (ret loops ai : Int) (w : World) (t : ByteArray) (p : Nat) (hS : IS K w0 O s ret loops ai w) (ht : t.size ≤ maxLen) :
    Calls Tryz.prog 118 #[.pointer (some ⟨K.cb, 0, none⟩), .string t, .int .i64 p] w (fun e w' => (look s.1 t = 0 → e = .panicked [{ v := q6 (5, p), recovered := false }]) ∧ (look s.1 t ≠ 0 → e = .returned (.int .i64 (look s.1 t))) ∧ Below w.heap.size w w') := by
  obtain ⟨sv, tv, bs, h1, h2⟩ := hS.is
  obtain ⟨k0, k1, k2, k4, k7, k8⟩ := h1.cells
  have bN := hS.lt
  have EF := h1.maps.len
  obtain ⟨a, c, pU, eM, iG⟩ := gg h1.sc
  have hlim : s.1.length ≤ 1048577 := by have := hS.ok.few; have := hS.len.few; have := hS.len.deep; omega
  have dJ := h1.sc
  have rY := hS.len.full
  have HM := aa h1.maps
  have nG : Hid (0 < s.1.length → ∃ g, a = some ⟨g, 0, none⟩ ∧ g < w.heap.size ∧ ∀ k j b, k + j + 1 = s.1.length → bs[k]? = some b → w.cell? ⟨g, 0 + j, none⟩ = some (.map (some b))) := by
    intro iB
    rcases h1.sc.2 with ⟨e1, e2⟩ | ⟨g, cap, cur, e1, S5⟩
    · omega
    · have Li : a = some ⟨g, 0, none⟩ := by rw [pU] at e1; injection e1
      refine ⟨g, Li, (Array.getElem?_eq_some_iff.1 S5.2.1).1, fun k j b hk hb => ?_⟩
      have := h1.sc.cells (g := g) (by rw [pU, Li]; rfl) j (.map (some b)) (by
        unfold ox
        rw [List.getElem?_reverse (by rw [List.length_map]; omega), List.length_map, List.getElem?_map, show bs.length - 1 - j = k by omega, hb]; rfl)
      rw [iD] at this
      rw [Nat.zero_add]
      exact this
  subst pU
  generalize hE : s.1 = E at *
  have HEL0 : Hid (∀ n, n = E.length → E.drop n = []) := fun n hn => List.drop_eq_nil_of_le (by omega)
  generalize E.length = len at *
  clear dJ h1 h2 hS hE
  refine (callsIn_wide (n := 3)).1 ?_
  refine callsIn_of_wp_marks Tryz.func118 rfl trivial ?_ rfl
  simp only [Tryz.ntmps118, List.size_toArray, List.length_cons, List.length_nil, Nat.reduceAdd, Nat.reduceSub, Array.replicate_succ, Array.replicate_zero, List.push_toArray, List.append_toArray, List.nil_append, List.cons_append]
  gi_wp2_with ((refine ⟨trivial, ?_⟩; gi_at_call 132; refine (callsIn_wide.2 (Od _ _ _ _)).mono ?_; rintro e w' ⟨rfl, rfl⟩))
  obtain ⟨V, hV⟩ : ∃ V, (((w.alloc (.cells #[.string t] 9)).alloc (.cells #[.int .i64 0] 3)).alloc (.cells #[.slice a len c] 74)) = V := ⟨_, rfl⟩
  have b8 : V.heap.size = w.heap.size + 3 := by rw [← hV]; simp
  have ja : Below w.heap.size w V := by
    rw [← hV]
    exact (((Below.refl _ w).alloc lr _).alloc (by simp) _).alloc (by simp; omega) _
  have c0 : V.cell? ⟨w.heap.size + 1 + 1, 0, none⟩ = some (.slice a len c) := by rw [← hV]; simp [go_sem]
  have b1 := Boxed.new w 9 (.string t)
  have b2 := Boxed.new (w.alloc (.cells #[.string t] 9)) 3 (.int .i64 0)
  simp only [World.size_alloc] at b1 b2
  have vi : VrI w E t [] V := by
    refine ⟨ja, ?_, ?_, rfl, by omega⟩
    · rw [← hV]; exact b2.alloc _
    · rw [← hV]; exact (b1.alloc _).alloc _
  have vh : jA V.heap.size (VrI w E t) := fun pre A C h hb => by
    have hz := h.size
    exact ⟨h.below.trans (hb.mono (by omega)), (hb.block _ (by omega)).trans h.res, (hb.block _ (by omega)).trans h.nm, h.look, by have := hb.size; omega⟩
  have Bv : ∀ cc, jA V.heap.size (fun (_ : List (Nat × Nat)) W => VrX w E t cc W) := fun cc pre A C h hb => by
    have hz := h.size
    exact ⟨h.ret, h.below.trans (hb.mono (by omega)), (hb.block _ (by omega)).trans h.res, h.ne, by have := hb.size; omega⟩
  rw [hV]
  clear hV b1 b2
  refine dX (α := Nat × Nat) (encs := Jr) (S := fun xs => xs.length = bs.length) (Sp := fun _ => True) (Came := LJ bs) (mine := fun k => k = w.heap.size + 1) rfl (by omega) (gf := 136) (lb := #[.pointer (some ⟨w.heap.size + 1 + 1, 0, none⟩)]) rfl trivial (enters_of Tryz.func136 (by kernel_rfl) rfl)
    (fun l J Jx W EV wh hJ hJx EX hY h0 => by
      have bM : ∀ b o, b < V.heap.size → W.cell? ⟨b, o, none⟩ = V.cell? ⟨b, o, none⟩ := fun b o hb => wh.cell (p := ⟨b, o, none⟩) hb
      by_cases iB : 0 < len
      · obtain ⟨g, Li, fz, wg⟩ := nG.out iB
        subst Li
        exact Ux 2 (by omega) V.heap.size (w.heap.size + 1 + 1) g 0 len c l bs EF iB (by omega) (fun k => k = w.heap.size + 1) J Jx W (by omega) (by omega) (fun k hk => by omega) EX hY h0 ((bM _ _ (by omega)).trans c0)
          (fun k j b hk hb => (bM _ _ (by omega)).trans ((ja.cell (p := ⟨g, 0 + j, none⟩) fz).trans (wg k j b hk hb)))
      · obtain rfl : len = 0 := by omega
        exact (Oc 2 (w.heap.size + 1 + 1) l c a J W ((bM _ _ (by omega)).trans c0) h0).mono fun e W' ⟨he, hj⟩ => ⟨he, .inl ⟨[], by simp; omega, hj⟩⟩)
    (fun _ => rfl) (VrI w E t) (fun cc _ W => VrX w E t cc W) vh Bv vi
    (fun x W => { tmps := #[.pointer (some ⟨K.cb, 0, none⟩), .string t, .int .i64 p, undef, .pointer (some ⟨w.heap.size, 0, none⟩), undef, .pointer (some ⟨w.heap.size + 1, 0, none⟩), undef, .map (some x.2), undef, .pointer (some ⟨K.cb, 0, none⟩), .pointer (some ⟨K.cb, 0, none⟩), .pointer (some ⟨K.cb, 1, none⟩), .slice a len c, .func (.func 136) #[] #[.pointer (some ⟨w.heap.size + 1 + 1, 0, none⟩)], .int .i64 (x.1 : Int), .map (some x.2), undef, undef, undef, undef, undef, undef, undef, undef, undef], defers := [] })
    (fun _ W => W) (fun _ W => Below.refl _ _) ?assign ?body ?done ?stop
  case assign =>
    intro l pre x W K _ hK
    simp only [Jr]
    gi_wp2
    exact hK
  case body =>
    rintro l pre x W1 W3 r hi hz ⟨dH, ft⟩ qa jF
    obtain ⟨sc, SD, nr⟩ := HM.out.at ft
    have lW := ((nr.same (jF.below.block _ nr.lt)).look (t := 142) Tryz.underlying142 (CD W3) ht)
    rw [pF] at lW
    have Nx := rY sc (List.mem_of_getElem? SD)
    have Ld : E.drop pre.length = sc :: E.drop (pre.length + 1) := by
      obtain ⟨hl, hg⟩ := List.getElem?_eq_some_iff.1 SD
      rw [List.drop_eq_getElem_cons hl, hg]
    have IB := A0 (E.drop (pre.length + 1)) t Nx
    have q := jF.nm.cell
    have qf := jF.nm.frozen
    have qr := jF.res.cell
    have qrf := jF.res.frozen
    have HI := aa jF
    have HD := aa Ld
    have HL := aa IB
    clear hi hz dH ft qa jF vi vh Bv c0 SD nr Nx Ld IB rY
    by_cases h0 : me sc t = 0
    · rw [h0] at lW
      have H0 := aa h0
      clear h0
      gi_wp2
      have h := HI.out
      refine ⟨KeepsOthers.refl _, ⟨Nat.le_refl _, fun _ _ _ => rfl⟩, ⟨h.below, h.res, h.nm, ?_, h.size⟩⟩
      rw [h.look, HD.out, HL.out, if_pos H0.out]; simp
    · have dE : (me sc t != 0) = true := by simp [h0]
      have H0 := aa h0
      clear h0
      gi_wp2
      have h := HI.out
      have Cd := h.size
      have u5 : look E t = me sc t := by rw [h.look, HD.out, HL.out, if_neg H0.out]
      refine ⟨KeepsOthers.setCell _ _ _, ⟨rfl, h.below.setCell (p := ⟨w.heap.size + 1, 0, none⟩) (by show w.heap.size ≤ w.heap.size + 1; omega) _, ?_, by rw [u5]; exact H0.out, by simp [World.setCell]; omega⟩⟩
      rw [u5]
      exact h.res.set _
  case stop =>
    rintro D cc pre W hD _ hx hK
    obtain rfl := hx.ret
    have cZ := hx.below
    have r0 := hx.res
    have HO := aa hx.ne
    clear hx vi vh Bv c0
    gi_wp2
    refine ⟨by simp, .inl ⟨_, _, rfl, run_takeDeferred hK, ?_⟩⟩
    have gp := grownBy_putObj' W D (.deferred none)
    have p0 := (r0.kept gp (fun e => by have := Option.some.inj e; omega)).cell
    refine ⟨.int .i64 (look E t), by simp [results, Tryz.results118, go_sem, p0], fun h => absurd h HO.out, fun _ => rfl, ?_⟩
    exact bR1
  case done =>
    rintro D xs W hD hS hi hK
    have u5 : look E t = 0 := by
      rw [hi.look, HEL0.out _ (by omega)]; rfl
    have HO := aa u5
    have HI := aa hi
    have HK := aa hK
    clear hS hi hK vi vh Bv c0 u5
    gi_wp2
    refine ⟨by simp, .inl ⟨_, _, rfl, run_takeDeferred HK.out, ?_⟩⟩
    have gp := grownBy_putObj' W D (.deferred none)
    have cZ := HI.out.below
    refine ⟨fun _ => rfl, fun h => absurd HO.out h, ?_⟩
    exact bR1
theorem ivar : eL := by
 intro K w0 O s ret loops ai w t p hS ht
 refine (Gz K w0 O s ret loops ai w t p hS ht).mono ?_
 rintro e w' ⟨h1, h2, h3⟩
 by_cases h0 : look s.1 t = 0
 ·rw [if_pos h0]
  exact ⟨h1 h0, h3.mono (by have := hS.lt; have := hS.ok.cl; omega)⟩
 ·rw [if_neg h0]
  exact ⟨h2 h0, hS.calm h3⟩
end
def FM (T : Nd) : Prop := ∀ (w : World) (v : Value) (hi : Nat), T.Fine → hi ≤ w.heap.size → Row 0 hi w T v →
 Calls Tryz.prog 105 #[T.val v] w fun e w' => e = .returned (.bool (cV T)) ∧ Below w.heap.size w w'
theorem Ef (T : Nd) (ih : ∀ i, i < T.len → FM (T.kids i)) (w : World) (v : Value) (hi : Nat) (hf : T.Fine) (dF : hi ≤ w.heap.size) (hr : Row 0 hi w T v) :
  Calls Tryz.prog 135 #[v, .func (.func 105) #[] #[]] w fun e w' => (∃ i : Int, e = .returned (.int .i64 i) ∧ decide (0 ≤ i) = fQ (fun i => cV (T.kids i)) T.len) ∧ Below w.heap.size w w' := by
 have hn := T.fine_len hf
 obtain ⟨a, cap, rfl, cr, hq⟩ := aH.1 hr
 have HR := aa hq
 have HF := aa hf
 have J9 := aa ih
 clear hq hr ih hf
 go_enter Tryz.func135, Tryz.ntmps135
 go_wp2
 go_loopw [8] (fun i wr => ∃ j : Nat, j ≤ T.len ∧ i = .int .i64 j ∧ fQ (fun i => cV (T.kids i)) j = false ∧ Below w.heap.size w wr) (fun i _ => T.len - (intOf i).toNat)
 case atStart => exact ⟨0, Nat.zero_le _, rfl, rfl, Below.refl _ _⟩
 case round =>
  obtain ⟨j, hj, rfl, EU, hb⟩ := hrel
  have fP : w.heap.size ≤ wr.heap.size := hb.size
  have HB := aa hb
  have FY := aa EU
  clear hb EU
  by_cases bN : j < T.len
  ·rcases HR.out with h0 | ⟨g, off, rfl, h1, h2, h3⟩
   ·omega
   obtain ⟨u, e0, e1, e2, e3, hu⟩ := h3 j bN
   have iM : g < w.heap.size := by omega
   rw [← HB.out.cell (p := ⟨g, _, none⟩) iM] at e0 e1 e2 e3
   have HC := aa (J9.out j bN wr u hi (Nd.fine_kid HF.out bN) (by omega) (ah HB.out dF hu))
   obtain ⟨au, qu, Iq, pY, Bg⟩ := aH.1 hu
   subst Iq
   unfold Nd.val at HC
   have tT : (j : Int) < (T.len : Int) := by omega
   clear h3 hu Bg
   cases Br : cV (T.kids j) with
   |true =>
    rw [Br] at HC
    have HA : Hid (fQ (fun i => cV (T.kids i)) T.len = true) := by
     have bl : ∀ n, j < n → fQ (fun i => cV (T.kids i)) n = true := by
      intro n hn
      induction n with
      |zero => omega
      |succ n ih =>
       simp only [fQ, Bool.or_eq_true]
       by_cases e : j = n
       ·subst e; exact .inr Br
       ·exact .inl (ih (by omega))
     exact bl _ bN
    clear Br
    go_wp2_with (go_at_call 105; refine HC.out.mono ?_; rintro e w1 ⟨rfl, hb1⟩)
    go_ret
    exact ⟨⟨_, rfl, by rw [HA.out]; simp⟩, HB.out.trans (hb1.mono fP)⟩
   |false =>
    rw [Br] at HC
    have HN : Hid (fQ (fun i => cV (T.kids i)) (j + 1) = false) := by
     unfold Hid; simp only [fQ, FY.out, Br, Bool.or_self]
    clear Br
    go_wp2_with (go_at_call 105; refine HC.out.mono ?_; rintro e w1 ⟨rfl, hb1⟩)
    exact ⟨⟨j + 1, by omega, by go_num, HN.out, HB.out.trans (hb1.mono fP)⟩, by simp [intOf]; omega⟩
  ·go_wp2
   go_ret
   obtain rfl : j = T.len := by omega
   exact ⟨⟨_, rfl, by rw [FY.out]; simp⟩, HB.out⟩
theorem contains_of (T : Nd) (ih : ∀ i, i < T.len → FM (T.kids i)) (w : World) (v : Value) (hi : Nat) (hf : T.Fine) (dF : hi ≤ w.heap.size) (hr : Row 0 hi w T v) :
  Calls Tryz.prog 128 #[v, .func (.func 105) #[] #[]] w fun e w' => e = .returned (.bool (fQ (fun i => cV (T.kids i)) T.len)) ∧ Below w.heap.size w w' := by
 have HC := aa (Ef T ih w v hi hf dF hr)
 obtain ⟨a, cap, rfl, cr, hq⟩ := aH.1 hr
 generalize fQ (fun i => cV (T.kids i)) T.len = ans at *
 clear hq hr ih hf
 go_enter Tryz.func128, Tryz.ntmps128
 go_wp2_with (go_at_call 135; refine HC.out.mono ?_; rintro e w1 ⟨⟨i, rfl, rfl⟩, hb1⟩)
 go_ret
 exact ⟨rfl, hb1⟩
theorem Ek (T : Nd) (ih : ∀ i, i < T.len → FM (T.kids i)) : FM T := by
 intro w v hi hf dF hr
 have hn := T.fine_len hf
 rw [sz]
 have HC := aa (fun o => contains_of T ih (w.alloc o) v hi hf (by simp; omega) (ah (bA) dF hr))
 obtain ⟨a, cap, rfl, cr, hq⟩ := aH.1 hr
 have fp := aa (fun o => (bO w o))
 unfold Nd.val
 by_cases qO : T.kind = 17
 ·rw [if_pos qO, qO]
  exact bR2
 rw [if_neg qO]
 have h17' : (T.kind == 17) = false := bn qO
 by_cases mW : T.kind = 11
 ·rw [if_pos (.inl mW)]
  rw [mW] at *
  exact bR2
 by_cases sf : T.kind = 15
 ·rw [if_pos (.inr sf)]
  rw [sf] at *
  exact bR2
 rw [if_neg (by omega)]
 have h11' : (T.kind == 11) = false := bn mW
 have h15' : (T.kind == 15) = false := bn sf
 clear hq hr ih qO mW sf hf
 generalize fQ (fun i => cV (T.kids i)) T.len = ans at *
 generalize T.kind = tk at *
 go_enter Tryz.func105, Tryz.ntmps105
 go_wp2_with (go_at_call 128; refine (HC.out _).mono ?_; rintro e w1 ⟨rfl, hb1⟩)
 exact bR5
theorem Ip (T : Nd) : FM T := by
 induction T with
 |nil => exact Ek _ fun i hi => absurd hi (Nat.not_lt_zero i)
 |mk k n s len kids ih => exact Ek _ fun i _ => ih i
def rk (T : Nd) : Prop := ∀ (w : World) (v : Value) (hi : Nat), T.Fine → hi ≤ w.heap.size → Row 0 hi w T v →
 Calls Tryz.prog 94 #[T.val v] w fun e w' => e = .returned (.bool (fA T)) ∧ Below w.heap.size w w'
theorem td {T : Nd} {w : World} {hi : Nat} {v : Value} (hf : T.Fine) (hr : Row 0 hi w T v) (ih : ∀ i, i < T.len → rk (T.kids i)) (dF : hi ≤ w.heap.size) (h0 : T.len ≠ 0) : ∃ g off cap, v = .slice (some ⟨g, off, none⟩) T.len cap ∧ g < hi ∧ (T.len ≤ cap ∧ cap ≤ 9223372036854775807) ∧ ∀ i, i < T.len →
    ∃ u, (∀ W, Below w.heap.size w W → W.cell? ⟨g, off + i * 4, none⟩ = some (.int .i64 (T.kids i).kind) ∧ W.cell? ⟨g, off + i * 4 + 1, none⟩ = some (.int .i64 (T.kids i).num) ∧
        W.cell? ⟨g, off + i * 4 + 2, none⟩ = some (.string (T.kids i).name) ∧ W.cell? ⟨g, off + i * 4 + 3, none⟩ = some u) ∧
      ∀ W, Below w.heap.size w W → (Calls Tryz.prog 94 #[.agg #[.int .i64 (T.kids i).kind, .int .i64 (T.kids i).num, .string (T.kids i).name, u]] W fun e w' => e = .returned (.bool (fA (T.kids i))) ∧ Below W.heap.size W w') ∧
        (Calls Tryz.prog 105 #[.agg #[.int .i64 (T.kids i).kind, .int .i64 (T.kids i).num, .string (T.kids i).name, u]] W fun e w' => e = .returned (.bool (cV (T.kids i))) ∧ Below W.heap.size W w') := by
  obtain ⟨g, off, cap, hv, hg, hc, hk⟩ := dq hr h0
  refine ⟨g, off, cap, hv, hg, hc, fun i fO => ?_⟩
  obtain ⟨u, h1, h2⟩ := hk i fO
  refine ⟨u, fun W hb => h1 W (hb.mono dF), fun W hb => ⟨?_, ?_⟩⟩
  · exact ih i fO W u hi (Nd.fine_kid hf fO) (Nat.le_trans dF hb.size) (ah (hb.mono dF) lr h2)
  · exact Ip (T.kids i) W u hi (Nd.fine_kid hf fO) (Nat.le_trans dF hb.size) (ah (hb.mono dF) lr h2)
theorem RM {T : Nd} (hk : T.kind = 4) (ih : ∀ i, i < T.len → rk (T.kids i)) : rk T := by
 intro w v hi hf dF hr
 have hn := T.fine_len hf
 rw [jz, if_neg (by omega), if_pos hk]
 have fp := aa (fun o => bO w o)
 have bH := jK
 by_cases h0 : T.len = 0
 ·obtain ⟨a, cap, rfl, cr, hq⟩ := aH.1 hr
  unfold Nd.val
  rw [hk, h0]
  exact bR3
 ·obtain ⟨g, off, cap, rfl, hg, cr, aV⟩ := td hf hr ih dF h0
  obtain ⟨m, hm⟩ : ∃ m, T.len = m + 1 := ⟨T.len - 1, by omega⟩
  obtain ⟨u, hc, u6⟩ := aV m (by omega)
  have HC := aa (hc _ (fp.out (.cells #[.int .i64 4, .int .i64 T.num, .string T.name, .slice (some ⟨g, off, none⟩) T.len cap] 25)))
  have HE := aa (fun W hb => (u6 W hb).1)
  unfold Nd.val
  rw [hk]
  have iB : (0 : Int) < (T.len : Int) := by omega
  have e1 : T.len - 1 = m := by omega
  have e2 : decide (0 < T.len) = true := decide_eq_true (by omega)
  have hlm : (T.len : Int) - 1 = m := by omega
  have EF : m < T.len := by omega
  rw [e1, e2, Bool.true_and]
  clear hr ih hc u6 aV hf hk e1 hm
  generalize T.len = L at *
  generalize T.kids m = M at *
  obtain ⟨c0, c1, c2, c3⟩ := HC.out
  have fz : g < w.heap.size := by omega
  generalize fA M = eb at *
  go_enter Tryz.func94, Tryz.ntmps94
  go_wp2_with (go_at_call 94; refine (HE.out _ (fp.out _)).mono ?_; rintro e w1 ⟨rfl, hb1⟩)
  exact bR5
theorem MM {T : Nd} (hk : T.kind = 10) (ih : ∀ i, i < T.len → rk (T.kids i)) : rk T := by
 intro w v hi hf dF hr
 have hn := T.fine_len hf
 rw [jz, if_neg (by omega), if_neg (by omega), if_pos hk]
 have fp := aa (fun o => bO w o)
 by_cases h0 : T.len = 3
 ·obtain ⟨g, off, cap, rfl, hg, cr, aV⟩ := td hf hr ih dF (by omega)
  obtain ⟨u1, eM, iZ⟩ := aV 1 (by omega)
  obtain ⟨u2, iG, p6⟩ := aV 2 (by omega)
  have fT := aa eM
  have nI := aa iG
  have tU := aa (fun W hb => (iZ W hb).1)
  have Kc := aa (fun W hb => (p6 W hb).1)
  unfold Nd.val
  rw [hk]
  rw [h0] at *
  have e2 : decide (3 = 3) = true := by decide
  rw [e2, Bool.true_and]
  clear hr ih eM iZ iG p6 aV hf hk e2
  generalize T.kids 1 = M1 at *
  generalize T.kids 2 = M2 at *
  obtain ⟨gS, gN, gR, gM⟩ := fT.out _ (fp.out (.cells #[.int .i64 10, .int .i64 T.num, .string T.name, .slice (some ⟨g, off, none⟩) 3 cap] 25))
  simp only [Nat.one_mul] at gS gN gR gM
  have fz : g < w.heap.size := by omega
  cases hb1 : fA M1 with
  |false =>
   rw [hb1] at tU
   clear hb1
   go_enter Tryz.func94, Tryz.ntmps94
   go_wp2_with (go_at_call 94; refine (tU.out _ (fp.out _)).mono ?_; rintro e w1 ⟨rfl, hb1⟩)
   exact bR5
  |true =>
   rw [hb1] at tU
   clear hb1
   have P1 : Hid True := trivial
   generalize fA M2 = eb at *
   go_enter Tryz.func94, Tryz.ntmps94
   go_wp2_with (first
    |(clear P1; go_at_call 94; refine (tU.out _ (fp.out _)).mono ?_; rintro e w1 ⟨rfl, hb1⟩; have fC := (fp.out _).trans (hb1.mono (by simp)); obtain ⟨rh, re, oN, oM⟩ := nI.out _ fC; have k3 : w1.cell? ⟨w.heap.size, 3, none⟩ = some (.slice (some ⟨g, off, none⟩) 3 cap) := (hb1.cell (p := ⟨w.heap.size, 3, none⟩) (by simp)).trans (by simp); have B4 := aa fC; clear fC hb1)
    |(go_at_call 94; refine (Kc.out _ B4.out).mono ?_; rintro e w2 ⟨rfl, ba⟩))
   go_ret
   exact ⟨rfl, B4.out.trans (ba.mono B4.out.size)⟩
 ·obtain ⟨a, cap, rfl, cr, hq⟩ := aH.1 hr
  unfold Nd.val
  have e2 : decide (T.len = 3) = false := decide_eq_false h0
  have e3 : ((T.len : Int) == 3) = false := bn (by omega)
  exact bR0
theorem ML {T : Nd} (hk : T.kind = 11) (ih : ∀ i, i < T.len → rk (T.kids i)) : rk T := by
 intro w v hi hf dF hr
 have hn := T.fine_len hf
 rw [jz, if_neg (by omega), if_neg (by omega), if_neg (by omega), if_pos hk]
 have fp := aa (fun o => bO w o)
 by_cases h0 : T.len = 1
 ·obtain ⟨g, off, cap, rfl, hg, cr, aV⟩ := td hf hr ih dF (by omega)
  obtain ⟨u1, eM, iZ⟩ := aV 0 (by omega)
  have fT := aa eM
  have tU := aa (fun W hb => (iZ W hb).2)
  unfold Nd.val
  rw [hk]
  rw [h0] at *
  have e2 : decide (1 = 1) = true := by decide
  rw [e2, Bool.true_and]
  clear hr ih eM iZ aV hf hk e2
  generalize T.kids 0 = M1 at *
  obtain ⟨gS, gN, gR, gM⟩ := fT.out _ (fp.out (.cells #[.int .i64 11, .int .i64 T.num, .string T.name, .slice (some ⟨g, off, none⟩) 1 cap] 25))
  simp only [Nat.zero_mul, Nat.add_zero] at gS gN gR gM
  have fz : g < w.heap.size := by omega
  generalize cV M1 = eb at *
  have SY : ∀ (x : Bool) (w : World), (Op.unary .not (.bool x)).run Tryz.prog w = .ok (.bool (!x)) w := fun _ _ => rfl
  go_enter Tryz.func94, Tryz.ntmps94
  go_wp2_with (go_at_call 105; refine (tU.out _ (fp.out _)).mono ?_; rintro e w1 ⟨rfl, hb1⟩)
  exact bR5
 ·obtain ⟨a, cap, rfl, cr, hq⟩ := aH.1 hr
  unfold Nd.val
  have e2 : decide (T.len = 1) = false := decide_eq_false h0
  have e3 : ((T.len : Int) == 1) = false := bn (by omega)
  exact bR0
theorem Ej (T : Nd) (ih : ∀ i, i < T.len → rk (T.kids i)) : rk T := by
 by_cases h4 : T.kind = 4
 ·exact RM h4 ih
 by_cases si : T.kind = 10
 ·exact MM si ih
 by_cases mW : T.kind = 11
 ·exact ML mW ih
 intro w v hi hf dF hr
 rw [jz]
 have fp := aa (fun o => bO w o)
 obtain ⟨a, cap, rfl, cr, hq⟩ := aH.1 hr
 unfold Nd.val
 by_cases sh : T.kind = 12
 ·rw [if_pos (.inl sh), sh]
  exact bR3
 by_cases xS : T.kind = 21
 ·rw [if_pos (.inr xS), xS]
  exact bR3
 rw [if_neg (by omega), if_neg h4, if_neg si, if_neg mW]
 have q4 : (T.kind == 4) = false := bn h4
 have q10 : (T.kind == 10) = false := bn si
 have q11 : (T.kind == 11) = false := bn mW
 have q12 : (T.kind == 12) = false := bn sh
 have q21 : (T.kind == 21) = false := bn xS
 clear hr hq ih h4 si mW sh xS
 generalize T.kind = tk at *
 exact bR6
theorem Im (T : Nd) : rk T := by
 induction T with
 |nil => exact Ej _ fun i hi => absurd hi (Nat.not_lt_zero i)
 |mk k n s len kids ih => exact Ej _ fun i _ => ih i
theorem xc (k n : Int) (s : ByteArray) (g off len cap : Nat) (w : World) (hl : len + 1 ≤ cap) (hc : cap ≤ 9223372036854775807) :
  Calls Tryz.prog 49 #[.agg #[.int .i64 k, .int .i64 n, .string s, .slice (some ⟨g, off, none⟩) (len + 1) cap]] w fun e w' => e = .returned (.slice (some ⟨g, off, none⟩) len cap) ∧ w' = w.alloc (.cells #[.int .i64 k, .int .i64 n, .string s, .slice (some ⟨g, off, none⟩) (len + 1) cap] 25) := by
 have hlm : ((len + 1 : Nat) : Int) - 1 = len := by omega
 have hlm2 : (len : Int) + 1 - 1 = len := by omega
 have IB : (len : Int) ≤ (cap : Int) := by omega
 have hlc2 : len ≤ cap := by omega
 go_enter Tryz.func49, Tryz.ntmps49
 go_wp2
 go_ret
 exact ⟨rfl, rfl⟩
theorem IS.setF {K : IK} {w0 : World} {O : Nat → Prop} {s : CS} {ret loops ai : Int} {w : World} (h : IS K w0 O s ret loops ai w) (f0 f2 f3 : Value) (n : Int) :
  IS K w0 O s n loops ai ((((w.setCell ⟨K.cb, 3, none⟩ f0).setCell ⟨K.cb, 4, none⟩ (.int .i64 n)).setCell ⟨K.cb, 5, none⟩ f2).setCell ⟨K.cb, 6, none⟩ f3) := by
 have go : ∀ (W : World) (r : Int) (i : Nat) (x : Value), IS K w0 O s r loops ai W → (i = 3 ∨ i = 5 ∨ i = 6) → IS K w0 O s r loops ai (W.setCell ⟨K.cb, i, none⟩ x) := by
  intro W r i x h hi
  obtain ⟨sv, tv, bs, h1, h2⟩ := h.is
  obtain ⟨g0, g2, g3, hb⟩ := h1.blk
  have pY := h.ok.cu
  have jk : IRaw K (W.setCell ⟨K.cb, i, none⟩ x) sv tv bs s r loops ai := by
   refine ⟨?_, ownsRow_setCell_below h1.sc (show K.cb < K.up from pY) _, ownsRow_setCell_below h1.ty (show K.cb < K.up from pY) _, h1.maps.same fun b Gg => Below.heap_setCell W ⟨K.cb, i, none⟩ _ b fun e' => ?_⟩
   ·rcases hi with rfl | rfl | rfl
    ·exact ⟨x, g2, g3, by rw [heap_setCell_same W K.cb _ _ _ _ hb]; simp⟩
    ·exact ⟨g0, x, g3, by rw [heap_setCell_same W K.cb _ _ _ _ hb]; simp⟩
    ·exact ⟨g0, g2, x, by rw [heap_setCell_same W K.cb _ _ _ _ hb]; simp⟩
   ·have := (h1.maps.mem b Gg).1; have e'' : b = K.cb := e'; omega
  exact h.step h1 h2 jk (fun k hk => .inl hk) h.len (Kept.setCell (S := fun k => k = K.cb ∨ Own sv tv bs k) ⟨K.cb, i, none⟩ _ (.inl rfl))
 have go4 : ∀ (W : World) (r : Int), IS K w0 O s r loops ai W → IS K w0 O s n loops ai (W.setCell ⟨K.cb, 4, none⟩ (.int .i64 n)) := by
  intro W r h
  obtain ⟨sv, tv, bs, h1, h2⟩ := h.is
  obtain ⟨g0, g2, g3, hb⟩ := h1.blk
  have pY := h.ok.cu
  have jk : IRaw K (W.setCell ⟨K.cb, 4, none⟩ (.int .i64 n)) sv tv bs s n loops ai := by
   refine ⟨⟨g0, g2, g3, by rw [heap_setCell_same W K.cb _ _ _ _ hb]; simp⟩, ownsRow_setCell_below h1.sc (show K.cb < K.up from pY) _, ownsRow_setCell_below h1.ty (show K.cb < K.up from pY) _, h1.maps.same fun b Gg => Below.heap_setCell W ⟨K.cb, 4, none⟩ _ b fun e' => ?_⟩
   have := (h1.maps.mem b Gg).1; have e'' : b = K.cb := e'; omega
  exact h.step h1 h2 jk (fun k hk => .inl hk) h.len (Kept.setCell (S := fun k => k = K.cb ∨ Own sv tv bs k) ⟨K.cb, 4, none⟩ _ (.inl rfl))
 exact go _ _ 6 _ (go _ _ 5 _ (go4 _ _ (go _ _ 3 _ h (.inl rfl))) (.inr (.inl rfl))) (.inr (.inr rfl))
theorem IS.frees {K : IK} {w0 : World} {O : Nat → Prop} {s : CS} {ret loops ai : Int} {w : World} (h : IS K w0 O s ret loops ai w) (i : Nat) : w.frozen? ⟨K.cb, i, none⟩ = false := by
 obtain ⟨sv, tv, bs, h1, h2⟩ := h.is
 exact h1.free i
theorem IS.fcells {K : IK} {w0 : World} {O : Nat → Prop} {s : CS} {ret loops ai : Int} {w : World} (h : IS K w0 O s ret loops ai w) : ∃ f0 f2 f3, w.cell? ⟨K.cb, 3, none⟩ = some f0 ∧ w.cell? ⟨K.cb, 4, none⟩ = some (.int .i64 ret) ∧ w.cell? ⟨K.cb, 5, none⟩ = some f2 ∧ w.cell? ⟨K.cb, 6, none⟩ = some f3 := by
 obtain ⟨sv, tv, bs, h1, h2⟩ := h.is
 obtain ⟨f0, f2, f3, hb⟩ := h1.blk
 exact ⟨f0, f2, f3, by simp [World.cell?, hb], by simp [World.cell?, hb], by simp [World.cell?, hb], by simp [World.cell?, hb]⟩
theorem DA {T : Nd} {X : List Int} : ∀ {n : Nat} {s : CS}, kb T X n = .ok s → s.1.length = 1 := by
 intro n
 induction n with
 |zero => intro s h; injection h with h; subst h; rfl
 |succ n ih =>
  intro s h
  rw [lT] at h
  obtain ⟨r, h1, h2⟩ := bt h
  have := ih h1
  unfold mH at h2
  split at h2
  ·cases h2
  ·injection h2 with h2; subst h2
   cases hr : r.1 with
   |nil => rw [hr] at this; simp at this
   |cons l E => rw [hr] at this; simpa [fZ] using this
theorem Il {T : Nd} (hF : dd T = true) (K : IK) (w0 : World) (O : Nat → Prop) (X : List Int) (ret : Int) (w : World) (v : Value) (hS : IS K w0 O ([], X) ret 0 0 w) (hE : IEnv K w) (hN : INd K w T v) (ay : X.length + T.size ≤ K.N) :
  Calls Tryz.prog 70 #[.pointer (some ⟨K.cb, 0, none⟩), T.val v] w (kQ K w (jc K.F T X) fun X' e w1 => e = .returned (.tuple #[]) ∧ IS K w0 O ([], X') T.num 0 0 w1) := by
 obtain ⟨hk, hl, uW, qZ, jG, Nn⟩ := E7 hF
 have dK := hS.ok.few
 have hn := T.fine_len hN.fine
 obtain ⟨m, hm⟩ : ∃ m, T.len = m + 1 := ⟨T.len - 1, by omega⟩
 have Gd : T.len - 1 = m := by omega
 obtain ⟨g, off, cap, hv, iM, cr, aV⟩ := dq hN.row (by omega)
 subst hv
 rw [Gd] at qZ jG
 have b8 := T.size_eq
 have fy : K.lo ≤ w.heap.size := by have := hS.lt; have := hS.ok.cl; omega
 obtain ⟨O1, aD, bg, bS, aZ⟩ := hS.boxed (nO T (.slice (some ⟨g, off, none⟩) T.len cap))
 have cP := aa bS
 have bF := aa aZ
 have eB := aa bg
 have iI := aa (ic aD (by show X.length + 1 ≤ K.N; omega))
 have Pu := aa (fun n (hn : n ≤ m) => sQ (X := X) (m := m) (fun i hi => (uW i (by omega)).1) hn)
 have kM := aa aV
 have HPAR := aa uW
 have Ct := aa hE
 have LG := aa hN
 have bH := jK
 have PC := aa (fun i (h : i < T.len) => bV T X.length h)
 have HENT := aa (fun (W : World) (r : Int) (hW : IS K (w.alloc (nO T (.slice (some ⟨g, off, none⟩) T.len cap))) O1 (ae ([], X)) r 0 0 W) => dx hW (Nat.zero_le _))
 unfold Nd.val at *
 have Bx : (T.len : Int) - 1 = m := by omega
 have Cf : m < T.len := by omega
 have hmI : (m : Int) < (T.len : Int) := by omega
 have iJ := aa Gd
 have FX := aa qZ
 have pr := aa jG
 have oZ := aa ay
 have HPO := aa (fun W => xc T.kind T.num T.name g off m cap W (by omega) cr.2)
 rw [← hm] at HPO
 clear hS hE hN aD bg bS aZ aV uW hk hm Gd qZ jG hF ay b8
 go_enter Tryz.func70, Tryz.ntmps70
 go_wp2_with (first
  |(go_at_call 69; refine iI.out.mono ?_; rintro e w1 ⟨rfl, aD⟩; obtain ⟨b0, b1, b2, b3⟩ := al (cP.out _ _ _ _ _ aD); have fr3 := aD.frees 3; have fr4 := aD.frees 4; have fr5 := aD.frees 5; have fr6 := aD.frees 6; obtain ⟨f0, f2, f3, k3, k4, k5, k6⟩ := aD.fcells; have bh := aa aD; clear aD)
  |(go_at_call 90; refine (HENT.out _ _ (bh.out.setF _ _ _ _)).mono ?_; rintro e w2 ⟨rfl, aC⟩; obtain ⟨b0, b1, b2, b3⟩ := al (cP.out _ _ _ _ _ aC); have bR := aa aC; clear aC fr3 fr4 fr5 fr6 k3 k4 k5 k6)
  |(go_at_call 49; refine (HPO.out _).mono ?_; rintro e w3 ⟨rfl, rfl⟩))
 go_loopw [19] (fun i wr => ∃ n : Nat, n ≤ m ∧ i = .int .i64 n ∧ ∃ st, kb T X n = .ok st ∧ IS K (w.alloc (nO T (.slice (some ⟨g, off, none⟩) T.len cap))) O1 st T.num 0 0 wr) (fun i _ => m - (intOf i).toNat)
 case atStart => exact ⟨0, Nat.zero_le _, rfl, _, rfl, bR.out.alloc _⟩
 case round =>
  obtain ⟨n, EE, rfl, st, aM, cy⟩ := hrel
  obtain ⟨p1, p2, p3, p4⟩ := Pu.out n EE st aM
  clear b0 b1 b2 b3
  by_cases bN : n < m
  ·have La : (n : Int) < (m : Int) := by omega
   have Nm : n < T.len := by omega
   obtain ⟨u, kK, jJ⟩ := kM.out n Nm
   obtain ⟨au, qu, hu, pY, Bg⟩ := aH.1 jJ
   subst hu
   obtain ⟨c0, c1, c2, c3⟩ := kK _ (bF.out _ _ _ _ _ cy)
   obtain ⟨O2, Bh, dS, kD, tr⟩ := cy.boxed (.cells #[.int .i64 (T.kids n).kind, .int .i64 (T.kids n).num, .string (T.kids n).name, .slice au (T.kids n).len qu] 25)
   have Cg := PC.out n Nm
   have hsn : 0 < (T.kids n).size := by rw [(T.kids n).size_eq]; omega
   have ay := oZ.out
   have lF := aa kD
   have Cs := aa (fun s' r' l' o' W (h : IS K _ O2 s' r' l' o' W) => bF.out _ _ _ _ _ (dS s' r' l' o' W h))
   have rp := aa dS
   have J3 := aa (ic Bh.drew (by omega))
   have Cv := aa (fun (W : World) (hW : IS K (wr.alloc (.cells #[.int .i64 (T.kids n).kind, .int .i64 (T.kids n).num, .string (T.kids n).name, .slice au (T.kids n).len qu] 25)) O2 (ae st) T.num 0 0 W) => fB hW (T.kids n).name (T.kids n).num st.2.length p2 (by have := (HPAR.out n (by omega)).2.2; omega) (fM (Nd.fine_kid LG.out.fine Nm)) (by rw [aP]; show aN st.1 + 1 ≤ _; omega))
   obtain ⟨d0, d1, d2, d3⟩ := al (kD _ _ _ _ _ Bh)
   have kG : Hid (kb T X (n + 1) = ir (ae st) (T.kids n).name (T.kids n).num st.2.length) := by unfold Hid; rw [lT, aM]; rfl
   clear kK jJ Bg cy Bh dS kD tr Cg hsn ay aM p1 p2 p3 p4
   cases hM : ir (ae st) (T.kids n).name (T.kids n).num st.2.length with
   |error pe =>
    have FQ := aa hM
    have qF : Hid (jc K.F T X = .error pe) := by
     have : kb T X (T.len - 1) = .error pe := im (kG.out.trans hM) (by omega)
     unfold Hid jc
     show CR.bind (kb T X (T.len - 1)) _ = _
     rw [this]; rfl
    have k_R7_0 := kk
    exact bR7
   |ok s1 =>
    have FQ := aa hM
    have k_R7_1 := kk
    exact bR7
  ·have Iy : m = n := by omega
   subst Iy
   obtain ⟨b0, b1, b2, b3⟩ := al (cP.out _ _ _ _ _ cy)
   obtain ⟨u, kK, jJ⟩ := kM.out m Cf
   obtain ⟨au, qu, hu, pY, Bg⟩ := aH.1 jJ
   subst hu
   have hcn' := kK _ (bF.out _ _ _ _ _ cy)
   obtain ⟨c0, c1, c2, c3⟩ := hcn'
   obtain ⟨O2, Bh, dS, kD, tr⟩ := cy.boxed (.cells #[.int .i64 (T.kids m).kind, .int .i64 (T.kids m).num, .string (T.kids m).name, .slice au (T.kids m).len qu] 25)
   have Cg := PC.out m Cf
   have ay := oZ.out
   have M0 := DA aM
   have S0 := LG.out.kid Cf jJ
   have IF : X.length + 1 ≤ st.2.length := by rw [p1]; unfold aW; omega
   have lF := aa kD
   have Cs := aa (fun s' r' l' o' W (h : IS K _ O2 s' r' l' o' W) => bF.out _ _ _ _ _ (dS s' r' l' o' W h))
   have rp := aa dS
   have r6 := Cs.out _ _ _ _ _ Bh
   have HBO2 := aa r6
   have kz := aa (np FX.out (fun i _ => A6 ivar _) K _ O2 st ⟨T.num, 0, 0⟩ 0 _ _ rfl Bh (Ct.out.later r6) (S0.later r6) (by omega) pr.out p2 (by omega) (by show 0 + _ ≤ _; omega) (by omega))
   have yy := aa (fun (s2 : CS) (dE : s2.1 ≠ []) (W : World) (hW : IS K (wr.alloc (.cells #[.int .i64 (T.kids m).kind, .int .i64 (T.kids m).num, .string (T.kids m).name, .slice au (T.kids m).len qu] 25)) O2 s2 T.num 0 0 W) => fx hW dE)
   have HLE : Hid (∀ s2, (b7 K.F (T.kids m)).sts ⟨T.num, 0, 0⟩ st = .ok s2 → s2.1.length = 1) := by
    intro s2 h
    have := ((iz K.F (T.kids m)).sts pr.out FX.out ⟨T.num, 0, 0⟩) _ s2 p2 h
    exact this.2.1.trans M0
   have Gt := aa (fun (W : World) (hb : Below K.lo w W) => Im (T.kids m) W _ K.lo S0.fine (by have := hb.size; omega) (S0.later hb).row)
   have HFM : Hid (jc K.F T X = CR.bind ((b7 K.F (T.kids m)).sts ⟨T.num, 0, 0⟩ st) fun s2 => if T.num ≠ 0 ∧ fA (T.kids m) = false then .error (9, X.length) else .ok s2.2) := by
    unfold Hid jc
    rw [iJ.out]
    show CR.bind (kb T X m) _ = _
    rw [aM]; rfl
   unfold Nd.val at kz Gt
   clear kK jJ Bg cy Bh dS kD tr Cg ay aM p1 p2 p3 p4 S0 r6 M0 IF
   cases hM : (b7 K.F (T.kids m)).sts ⟨T.num, 0, 0⟩ st with
   |error pe =>
    have FQ := aa hM
    have qF : Hid (jc K.F T X = .error pe) := by unfold Hid; rw [HFM.out, hM]; rfl
    clear hM
    go_wp2_with (first
     |(go_at_call 92; refine (dr kz.out FQ.out).mono ?_; rintro e w4 ⟨rfl, kL⟩))
    refine ⟨rfl, ?_⟩
    rw [fR qF.out]
    exact ⟨rfl, (HBO2.out).trans kL⟩
   |ok s2 =>
    have FQ := aa hM
    have h1 := HLE.out _ hM
    have yy := aa (yy.out s2 (fun e => by rw [e] at h1; cases h1))
    have htl : s2.1.tail = [] := by cases hh : s2.1 with
     |nil => rfl
     |cons l E => rw [hh] at h1; simp at h1; simp [h1]
    rw [htl] at yy
    have wk : Hid (jc K.F T X = if T.num ≠ 0 ∧ fA (T.kids m) = false then .error (9, X.length) else .ok s2.2) := by unfold Hid; rw [HFM.out, hM]; rfl
    clear hM h1 htl
    by_cases h0 : T.num = 0
    ·have oY : Hid (jc K.F T X = .ok s2.2) := by unfold Hid; rw [wk.out, if_neg (fun h => h.1 h0)]
     have dE : (T.num != 0) = false := by simp [h0]
     clear h0 wk
     go_wp2_with (first
      |(go_at_call 92; refine (cw kz.out FQ.out).mono ?_; rintro e w4 ⟨rfl, gh⟩; obtain ⟨b0, b1, b2, b3⟩ := al (cP.out _ _ _ _ _ (rp.out _ _ _ _ _ gh)); obtain ⟨d0, d1, d2, d3⟩ := al (lF.out _ _ _ _ _ gh); have mb := aa gh; clear gh)
      |(go_at_call 93; refine (yy.out _ mb.out).mono ?_; rintro e w5 ⟨rfl, jh⟩; obtain ⟨b0, b1, b2, b3⟩ := al (cP.out _ _ _ _ _ (rp.out _ _ _ _ _ jh)); obtain ⟨d0, d1, d2, d3⟩ := al (lF.out _ _ _ _ _ jh); have mY := aa jh; clear jh))
     go_end0
     rw [lD oY.out]
     exact ⟨rfl, eB.out _ _ _ _ _ (rp.out _ _ _ _ _ mY.out)⟩
    ·have dE : (T.num != 0) = true := by simp [h0]
     cases he : fA (T.kids m) with
     |true =>
      have oY : Hid (jc K.F T X = .ok s2.2) := by unfold Hid; rw [wk.out, if_neg (fun h => by rw [he] at h; cases h.2)]
      have k_R8_0 := kk
      exact bR8
     |false =>
      have qF : Hid (jc K.F T X = .error (9, X.length)) := by unfold Hid; rw [wk.out, if_pos ⟨h0, he⟩]
      have k_R8_1 := kk
      exact bR8
end Go.Proofs.YteaocammohcgoaaGreatDoor
