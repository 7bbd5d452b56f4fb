import Derived.Test.YteaocammohcgoaaGreatDoorQKfD
import Derived.Test.YteaocammohcgoaaGreatDoorQKaWalk
import Derived.Test.YteaocammohcgoaaGreatDoorQKdP
set_option linter.unusedVariables false
set_option maxHeartbeats 16000000
set_option maxRecDepth 100000
namespace Go.Proofs.YteaocammohcgoaaGreatDoor
open Go.RowKit
variable {G : Prop}
theorem bW0 (h : G := by
 rw [hk, e2, Bool.false_and]
 clear hr hq ih
 exact bW6) : G := h
theorem bW1 (h : G := by
 exact hb3.grown gp (by have := hb3.size; omega) (fun k e => by have := Option.some.inj e; omega)) : G := h
theorem bW2 (h : G := by
 clear hq hr ih
 go_enter Tryz.func105, Tryz.ntmps105
 go_wp2
 go_ret
 exact ⟨rfl, dY.out _⟩) : G := h
theorem bW3 (h : G := by
 clear hr hq ih
 exact bW6) : G := h
theorem OS (h : G := by
 intro W hW
 obtain ⟨x0, x1⟩ := hW
 go_simp
 with_reducible rfl) : G := h
theorem bW5 (h : G := by
 go_ret
 exact ⟨rfl, (dY.out _).trans (hb1.mono (by simp))⟩) : G := h
theorem bW6 (h : G := by
 go_enter Tryz.func94, Tryz.ntmps94
 go_wp2
 go_ret
 exact ⟨rfl, dY.out _⟩) : G := h
theorem bW7 (h : G := by
 clear hM
 go_wp2
 refine wp_region_held_drew (S := (fun W => W.cell? ⟨wr.heap.size, 1, none⟩ = some (.int .i64 (T.kids n).num) ∧ W.cell? ⟨wr.heap.size, 2, none⟩ = some (.string (T.kids n).name))) bI ?_ (fun eK => ?_)
 ·exact ⟨d1, d2⟩
 refine wpAnyH_take (i := 0) (v := ?_) rfl (by kernel_rfl) (by kernel_rfl) (by kernel_rfl) (fun _ _ _ h => h) (Or.inl ⟨by rfl, ?_⟩) eK ?_
 rotate_left
 ·exact OS
 simp only [Act.put, List.setIfInBounds_toArray]
 refine wpAnyH_take (i := 1) (v := ?_) rfl (by kernel_rfl) (by kernel_rfl) (by kernel_rfl) (fun _ _ _ h => h) (Or.inl ⟨by rfl, ?_⟩) eK ?_
 rotate_left
 ·exact OS
 simp only [Act.put]
 refine wpAnyH_take (i := 2) (v := ?_) rfl (by kernel_rfl) (by kernel_rfl) (by kernel_rfl) (fun _ _ _ h => h) (Or.inl ⟨by rfl, ?_⟩) eK ?_
 rotate_left
 ·exact OS
 simp only [Act.put]
 refine wpAnyH_take (i := 3) (v := ?_) rfl (by kernel_rfl) (by kernel_rfl) (by kernel_rfl) (fun _ _ _ h => h) (Or.inl ⟨by rfl, ?_⟩) eK ?_
 rotate_left
 ·exact OS
 simp only [Act.put]
 refine wpAnyH_take (i := 4) (v := ?_) rfl (by kernel_rfl) (by kernel_rfl) (by kernel_rfl) (fun _ _ _ h => h) (Or.inl ⟨by rfl, ?_⟩) eK ?_
 rotate_left
 ·exact OS
 simp only [Act.put]
 refine wpAnyH_take (i := 5) (v := ?_) rfl (by kernel_rfl) (by kernel_rfl) (by kernel_rfl) (fun _ _ _ h => h) (Or.inl ⟨by rfl, ?_⟩) eK ?_
 rotate_left
 ·exact OS
 simp only [Act.put]
 refine wpAnyH_ready (rs := [6]) (by kernel_rfl) (by simp) ?_
 refine AllReadyH.cons rfl (fun K' hK => ?_) AllReadyH.nil
 rw [if_pos (by rfl)]
 go_wp2_with (go_at_call 69; refine Jj.out.mono ?_; rintro e w4 ⟨rfl, fH⟩; obtain ⟨d0, d1, d2, d3⟩ := ai (ly.out _ _ _ _ _ fH); have kG := aa fH; clear fH)
 refine hK.out _ _ ⟨d1, d2⟩ (fun sZ => ?_)
 refine wpAnyH_ready (rs := [7]) (by kernel_rfl) (by simp) ?_
 refine AllReadyH.cons rfl (fun K' hK => ?_) AllReadyH.nil
 rw [if_pos (by rfl)]
 first
 |clear k_0
  go_wp2_with (go_at_call 91; refine (dq (BZ.out _ kG.out) Fo.out).mono ?_; rintro e w5 ⟨rfl, oT⟩)
  refine ⟨rfl, ?_⟩
  rw [fQ qC.out]
  exact ⟨rfl, (BU.out _ _ _ _ _ kG.out).trans oT⟩
 |clear k_1
  go_wp2_with (go_at_call 91; refine (cq (BZ.out _ kG.out) Fo.out).mono ?_; rintro e w5 ⟨rfl, jh⟩; obtain ⟨d0, d1, d2, d3⟩ := ai (ly.out _ _ _ _ _ jh); have l7 := aa jh; clear jh)
  refine hK.out _ _ ⟨d1, d2⟩ (fun xx => ?_)
  refine wpAnyH_done (by kernel_rfl) ?_ _
  go_wp2
  exact ⟨⟨n + 1, by omega, by go_num, s1, by rw [kB.out, Fo.out], tB.out _ _ _ _ _ l7.out⟩, by simp [intOf]; omega⟩) : G := h
theorem bW8 (h : G := by
 rw [he] at FS
 clear h0 zw he
 go_wp2_with (first
  |(go_at_call 92; refine (cq kt.out Fo.out).mono ?_; rintro e w4 ⟨rfl, fH⟩; obtain ⟨b0, b1, b2, b3⟩ := ai (cJ.out _ _ _ _ _ (tB.out _ _ _ _ _ fH)); obtain ⟨d0, d1, d2, d3⟩ := ai (ly.out _ _ _ _ _ fH); have kG := aa fH; clear fH)
  |(go_at_call 93; refine (yb.out _ kG.out).mono ?_; rintro e w5 ⟨rfl, jh⟩; obtain ⟨b0, b1, b2, b3⟩ := ai (cJ.out _ _ _ _ _ (tB.out _ _ _ _ _ jh)); obtain ⟨d0, d1, d2, d3⟩ := ai (ly.out _ _ _ _ _ jh); have l7 := aa jh; clear jh)
  |(go_at_call 94; refine (FS.out _ (BU.out _ _ _ _ _ l7.out)).mono ?_; rintro e w6 ⟨rfl, oS⟩))
 first
 |clear k_0
  go_end0
  rw [lu oY.out]
  exact ⟨rfl, (fc.out _ _ _ _ _ (tB.out _ _ _ _ _ l7.out)).calm oS⟩
 |clear k_1
  refine ⟨rfl, ?_⟩
  rw [fQ qC.out]
  exact ⟨rfl, (BU.out _ _ _ _ _ l7.out).trans (oS.mono (by have := (BU.out _ _ _ _ _ l7.out).size; omega))⟩) : G := h
theorem bW9 (h : G := by
 refine callsIn_of_wp Tryz.func136 rfl trivial ?_ rfl
 simp only [Tryz.ntmps136, List.size_toArray, List.length_cons, List.length_nil, Nat.reduceAdd, Nat.reduceSub, Array.replicate_succ, Array.replicate_zero, List.push_toArray, List.append_toArray, List.nil_append, List.cons_append]
 first
 |clear k_0
  have hw0 : IntKind.i64.wrap ((0 : Int) - 1) = -1 := by decide
  gi_wp2
  gi_loopw [3] (fun i wr => i = .int .i64 (-1) ∧ J [] wr) (fun _ _ => 0)
  case atStart => exact ⟨rfl, h0⟩
  case round =>
   obtain ⟨rfl, MK⟩ := hrel
   gi_wp2
   go_end0
   exact ⟨⟨_, rfl⟩, MK⟩
 |clear k_1
  have hw0 : IntKind.i64.wrap ((len : Int) - 1) = (len : Int) - 1 := by simp [IntKind.wrap, IntKind.bits, IntKind.signed]; omega
  gi_wp2
  gi_loopw [3] (fun i wr => ∃ pre : List (Nat × Nat), pre.length ≤ len ∧ i = .int .i64 ((len : Int) - 1 - pre.length) ∧ J pre wr ∧ wr.heap[br]? = W.heap[br]? ∧ wr.heap[g]? = W.heap[g]?) (fun i _ => (intOf i + 1).toNat)
  case atStart => exact ⟨[], by simp, by simp, h0, rfl, rfl⟩
  case round =>
   obtain ⟨pre, hk, hi, MK, hb1, hb2⟩ := hrel
   have HJ := aa MK
   clear hw0 h0
   by_cases bB : pre.length < len
   ·obtain ⟨j, hj⟩ : ∃ j, pre.length + j + 1 = len := ⟨len - 1 - pre.length, by omega⟩
    obtain ⟨b, gP⟩ : ∃ b, bs[pre.length]? = some b := ⟨_, List.getElem?_eq_getElem (by omega)⟩
    have iV : (len : Int) - 1 - pre.length = (j : Int) := by omega
    rw [iV] at hi
    subst hi
    have q0 : wr.cell? ⟨br, 0, none⟩ = some (.slice (some ⟨g, off, none⟩) len cap) := by rw [← eT]; simp only [World.cell?, hb1]
    have q1 : wr.cell? ⟨g, off + j, none⟩ = some (.map (some b)) := by rw [← hc _ _ _ hj gP]; simp only [World.cell?, hb2]
    have vC : IntKind.i64.wrap ((j : Int) - 1) = (j : Int) - 1 := by simp [IntKind.wrap, IntKind.bits, IntKind.signed]; omega
    have rO : j < len := by omega
    obtain ⟨fn, tmps, assign, body, hy, hR⟩ := hY pre (j, b) wr MK ⟨by show pre.length + j + 1 = _; omega, gP⟩
    dsimp only [I1] at hy
    have fc := aa hb1
    have fI := aa hb2
    have HJN := aa hj
    have HZ := aa (Ev _ _ MK)
    have HL := aa hlen
    clear hb1 hb2 hc eT iV hk bB gP hj hlen MK Ev
    gi_wp2
    refine hR.mono ?_
    rintro e W3 (⟨rfl, hJ3, qH⟩ | ⟨rfl, hJx3⟩)
    ·have O8 := aa hJ3
     have N9 := aa qH
     clear hJ3 qH hy hR q0 q1
     gi_wp2
     go_roundw
     case rel =>
      have hj := HJN.out
      have hz := HZ.out
      refine ⟨pre ++ [(j, b)], by simp; omega, by simp; omega, O8.out, ?_, ?_⟩
      ·exact (N9.out.same br (by omega) (fun h => h.elim (fun h => (hm _ h).1 rfl) (fun h => by omega))).trans fc.out
      ·exact (N9.out.same g (by omega) (fun h => h.elim (fun h => (hm _ h).2 rfl) (fun h => by omega))).trans fI.out
     case measure => simp [intOf]; try omega
    ·gi_wp2
     refine bodyPost_ret (results_none rfl _ _ _) rfl ?_
     exact ⟨⟨_, rfl⟩, .inr ⟨_, trivial, hJx3⟩⟩
   ·have hke : pre.length = len := by omega
    have iV : (len : Int) - 1 - pre.length = -1 := by omega
    rw [iV] at hi
    subst hi
    have HE : Hid (pre.length = bs.length) := by unfold Hid; omega
    clear iV hke bB hk MK hc eT hb1 hb2 hlen
    gi_wp2
    go_end0
    exact ⟨⟨_, rfl⟩, .inl ⟨_, HE.out, HJ.out⟩⟩) : G := h
section
open Go.RowKit Go.Shelf
attribute [local go_sem] Oper.semAt_some
def I1 (x : Nat × Nat) : Array Value := #[.int .i64 (x.1 : Int), .map (some x.2)]
def KU (bs : List Nat) (pre : List (Nat × Nat)) (x : Nat × Nat) : Prop := pre.length + x.1 + 1 = bs.length ∧ bs[pre.length]? = some x.2
theorem M7 (a : Option Addr) (len cap : Nat) (w : World) :
  Calls Tryz.prog 132 #[.slice a len cap] w fun e w' => e = .returned (.func (.func 136) #[] #[.pointer (some ⟨w.heap.size, 0, none⟩)]) ∧ w' = w.alloc (.cells #[.slice a len cap] 74) := by
 go_enter Tryz.func132, Tryz.ntmps132
 go_wp2
 go_ret
 exact ⟨rfl, rfl⟩
theorem M6 (n : Nat) (br l cap : Nat) (a : Option Addr) (J : List (Nat × Nat) → World → Prop) (W : World) (hc : W.cell? ⟨br, 0, none⟩ = some (.slice a 0 cap)) (h0 : J [] W) :
  CallsIn Fence.wide n Tryz.prog 136 #[.func (.yield l) #[] #[], .pointer (some ⟨br, 0, none⟩)] W fun e W' => (∃ v, e = .returned v) ∧ J [] W' := by
 have k_0 := kk
 exact bW9
theorem SF (n : Nat) (hn : 1 ≤ n) (B br g off len cap l : Nat) (bs : List Nat) (hlen : bs.length = len) (gh : 0 < len) (hlim : len ≤ 1099511627776) (mine : Nat → Prop) (J Jx : List (Nat × Nat) → World → Prop) (W : World) (hbr : br < B) (hg : g < B) (hm : ∀ k, mine k → k ≠ br ∧ k ≠ g)
    (Ev : ∀ pre A, J pre A → B + 2 ≤ A.heap.size)
    (hY : ∀ pre x W1, J pre W1 → KU bs pre x → YieldAt Fence.wide (n - 1) Tryz.prog l (I1 x) W1 fun e W' =>
      (e = .returned (.bool true) ∧ J (pre ++ [x]) W' ∧ KeptF (fun k => mine k ∨ k = B + 1) W1 W') ∨ (e = .returned (.bool false) ∧ Jx (pre ++ [x]) W'))
    (h0 : J [] W) (eT : W.cell? ⟨br, 0, none⟩ = some (.slice (some ⟨g, off, none⟩) len cap))
    (hc : ∀ k j b, k + j + 1 = len → bs[k]? = some b → W.cell? ⟨g, off + j, none⟩ = some (.map (some b))) :
    CallsIn Fence.wide n Tryz.prog 136 #[.func (.yield l) #[] #[], .pointer (some ⟨br, 0, none⟩)] W fun e W' => (∃ v, e = .returned v) ∧ ((∃ xs : List (Nat × Nat), xs.length = bs.length ∧ J xs W') ∨ (∃ pre, True ∧ Jx pre W')) := by
  have k_1 := kk
  exact bW9
end
section
open Go.RowKit Go.Shelf
attribute [local go_sem] Oper.semAt_some
theorem AJ {l : List (ByteArray × Int)} (E : Sc) (t : ByteArray) (hf : ∀ q ∈ l, q.2 ≠ 0) : look (l :: E) t = if lX l t = 0 then look E t else lX l t := by
 unfold look lX
 rw [List.flatten_cons, List.find?_append]
 cases h : l.find? (fun p => decide (p.1 = t)) with
 |none => simp
 |some q =>
  have := hf q (List.mem_of_find?_eq_some h)
  simp [this]
theorem Mps.at {w : World} {up : Nat} : ∀ {bs : List Nat} {E : Sc}, Mps w up bs E → ∀ {k b : Nat}, bs[k]? = some b → ∃ l, E[k]? = some l ∧ MapAt w b l.length (JR l)
 |[], [], _, k, b, hb => by simp at hb
 |b0 :: bs, l :: E, h, 0, b, hb => by simp at hb; subst hb; exact ⟨l, rfl, h.1⟩
 |b0 :: bs, l :: E, h, k + 1, b, hb => by simp at hb; simpa using h.2.2.2.at hb
 |[], _ :: _, h, _, _, _ => h.elim
 |_ :: _, [], h, _, _, _ => h.elim
structure VrI (w : World) (E : Sc) (t : ByteArray) (pre : List (Nat × Nat)) (W : World) : Prop where
 below : Below w.heap.size w W
 res : Boxed W (w.heap.size + 1) 3 (.int .i64 0)
 nm : Boxed W w.heap.size 9 (.string t)
 look : look E t = look (E.drop pre.length) t
 size : w.heap.size + 3 ≤ W.heap.size
structure VrX (w : World) (E : Sc) (t : ByteArray) (c : Code) (W : World) : Prop where
 ret : c = .ret
 below : Below w.heap.size w W
 res : Boxed W (w.heap.size + 1) 3 (.int .i64 (look E t))
 ne : look E t ≠ 0
 size : w.heap.size + 3 ≤ W.heap.size
theorem FZ (K : IK) (w0 : World) (O : Nat → Prop) (s : CS) (ret loops ag : Int) (w : World) (t : ByteArray) (p : Nat) (hS : IS K w0 O s ret loops ag w) (ht : t.size ≤ maxLen) :
    Calls Tryz.prog 118 #[.pointer (some ⟨K.cb, 0, none⟩), .string t, .int .i64 p] w (fun e w' => (look s.1 t = 0 → e = .panicked [{ v := q9 (5, p), recovered := false }]) ∧ (look s.1 t ≠ 0 → e = .returned (.int .i64 (look s.1 t))) ∧ Below w.heap.size w w') := by
  obtain ⟨sv, tv, bs, h1, h2⟩ := hS.is
  obtain ⟨k0, k1, k2, k4, k7, k8⟩ := h1.cells
  have bB := hS.lt
  have Ec := h1.maps.len
  obtain ⟨a, c, pQ, ed, iy⟩ := dN h1.sc
  have hlim : s.1.length ≤ 1048577 := by have := hS.ok.few; have := hS.len.few; have := hS.len.deep; omega
  have dO := h1.sc
  have rQ := hS.len.full
  have HM := aa h1.maps
  have nF : Hid (0 < s.1.length → ∃ g, a = some ⟨g, 0, none⟩ ∧ g < w.heap.size ∧ ∀ k j b, k + j + 1 = s.1.length → bs[k]? = some b → w.cell? ⟨g, 0 + j, none⟩ = some (.map (some b))) := by
    intro gh
    rcases h1.sc.2 with ⟨e1, e2⟩ | ⟨g, cap, cur, e1, Rc⟩
    · omega
    · have Kr : a = some ⟨g, 0, none⟩ := by rw [pQ] at e1; injection e1
      refine ⟨g, Kr, (Array.getElem?_eq_some_iff.1 Rc.2.1).1, fun k j b hk hb => ?_⟩
      have := h1.sc.cells (g := g) (by rw [pQ, Kr]; rfl) j (.map (some b)) (by
        unfold oz
        rw [List.getElem?_reverse (by rw [List.length_map]; omega), List.length_map, List.getElem?_map, show bs.length - 1 - j = k by omega, hb]; rfl)
      rw [jd] at this
      rw [Nat.zero_add]
      exact this
  subst pQ
  generalize hE : s.1 = E at *
  have HEL0 : Hid (∀ n, n = E.length → E.drop n = []) := fun n hn => List.drop_eq_nil_of_le (by omega)
  generalize E.length = len at *
  clear dO h1 h2 hS hE
  refine (callsIn_wide (n := 3)).1 ?_
  refine callsIn_of_wp_marks Tryz.func118 rfl trivial ?_ rfl
  simp only [Tryz.ntmps118, List.size_toArray, List.length_cons, List.length_nil, Nat.reduceAdd, Nat.reduceSub, Array.replicate_succ, Array.replicate_zero, List.push_toArray, List.append_toArray, List.nil_append, List.cons_append]
  gi_wp2_with ((refine ⟨trivial, ?_⟩; gi_at_call 132; refine (callsIn_wide.2 (M7 _ _ _ _)).mono ?_; rintro e w' ⟨rfl, rfl⟩))
  obtain ⟨V, hV⟩ : ∃ V, (((w.alloc (.cells #[.string t] 9)).alloc (.cells #[.int .i64 0] 3)).alloc (.cells #[.slice a len c] 74)) = V := ⟨_, rfl⟩
  have bS : V.heap.size = w.heap.size + 3 := by rw [← hV]; simp
  have iY : Below w.heap.size w V := by
    rw [← hV]
    exact (((Below.refl _ w).alloc lr _).alloc (by simp) _).alloc (by simp; omega) _
  have c0 : V.cell? ⟨w.heap.size + 1 + 1, 0, none⟩ = some (.slice a len c) := by rw [← hV]; simp [go_sem]
  have b1 := Boxed.new w 9 (.string t)
  have b2 := Boxed.new (w.alloc (.cells #[.string t] 9)) 3 (.int .i64 0)
  simp only [World.size_alloc] at b1 b2
  have uW : VrI w E t [] V := by
    refine ⟨iY, ?_, ?_, rfl, by omega⟩
    · rw [← hV]; exact b2.alloc _
    · rw [← hV]; exact (b1.alloc _).alloc _
  have uV : jw V.heap.size (VrI w E t) := fun pre A C h hb => by
    have hz := h.size
    exact ⟨h.below.trans (hb.mono (by omega)), (hb.block _ (by omega)).trans h.res, (hb.block _ (by omega)).trans h.nm, h.look, by have := hb.size; omega⟩
  have Ba : ∀ cc, jw V.heap.size (fun (_ : List (Nat × Nat)) W => VrX w E t cc W) := fun cc pre A C h hb => by
    have hz := h.size
    exact ⟨h.ret, h.below.trans (hb.mono (by omega)), (hb.block _ (by omega)).trans h.res, h.ne, by have := hb.size; omega⟩
  rw [hV]
  clear hV b1 b2
  refine eo (α := Nat × Nat) (encs := I1) (S := fun xs => xs.length = bs.length) (Sp := fun _ => True) (Came := KU bs) (mine := fun k => k = w.heap.size + 1) rfl (by omega) (gf := 136) (lb := #[.pointer (some ⟨w.heap.size + 1 + 1, 0, none⟩)]) rfl trivial (enters_of Tryz.func136 (by kernel_rfl) rfl)
    (fun l J Jx W Et vJ hJ hJx Ev hY h0 => by
      have bV : ∀ b o, b < V.heap.size → W.cell? ⟨b, o, none⟩ = V.cell? ⟨b, o, none⟩ := fun b o hb => vJ.cell (p := ⟨b, o, none⟩) hb
      by_cases gh : 0 < len
      · obtain ⟨g, Kr, fO, vH⟩ := nF.out gh
        subst Kr
        exact SF 2 (by omega) V.heap.size (w.heap.size + 1 + 1) g 0 len c l bs Ec gh (by omega) (fun k => k = w.heap.size + 1) J Jx W (by omega) (by omega) (fun k hk => by omega) Ev hY h0 ((bV _ _ (by omega)).trans c0)
          (fun k j b hk hb => (bV _ _ (by omega)).trans ((iY.cell (p := ⟨g, 0 + j, none⟩) fO).trans (vH k j b hk hb)))
      · obtain rfl : len = 0 := by omega
        exact (M6 2 (w.heap.size + 1 + 1) l c a J W ((bV _ _ (by omega)).trans c0) h0).mono fun e W' ⟨he, hj⟩ => ⟨he, .inl ⟨[], by simp; omega, hj⟩⟩)
    (fun _ => rfl) (VrI w E t) (fun cc _ W => VrX w E t cc W) uV Ba uW
    (fun x W => { tmps := #[.pointer (some ⟨K.cb, 0, none⟩), .string t, .int .i64 p, undef, .pointer (some ⟨w.heap.size, 0, none⟩), undef, .pointer (some ⟨w.heap.size + 1, 0, none⟩), undef, .map (some x.2), undef, .pointer (some ⟨K.cb, 0, none⟩), .pointer (some ⟨K.cb, 0, none⟩), .pointer (some ⟨K.cb, 1, none⟩), .slice a len c, .func (.func 136) #[] #[.pointer (some ⟨w.heap.size + 1 + 1, 0, none⟩)], .int .i64 (x.1 : Int), .map (some x.2), undef, undef, undef, undef, undef, undef, undef, undef, undef], defers := [] })
    (fun _ W => W) (fun _ W => Below.refl _ _) ?assign ?body ?done ?stop
  case assign =>
    intro l pre x W K _ hK
    simp only [I1]
    gi_wp2
    exact hK
  case body =>
    rintro l pre x W1 W3 r hi hz ⟨dJ, ft⟩ pZ jA
    obtain ⟨sc, QW, nr⟩ := HM.out.at ft
    have lP := ((nr.same (jA.below.block _ nr.lt)).look (t := 142) Tryz.underlying142 (Ce W3) ht)
    rw [pC] at lP
    have Kl := rQ sc (List.mem_of_getElem? QW)
    have Kn : E.drop pre.length = sc :: E.drop (pre.length + 1) := by
      obtain ⟨hl, hg⟩ := List.getElem?_eq_some_iff.1 QW
      rw [List.drop_eq_getElem_cons hl, hg]
    have Kf := AJ (E.drop (pre.length + 1)) t Kl
    have q := jA.nm.cell
    have qf := jA.nm.frozen
    have qr := jA.res.cell
    have qrf := jA.res.frozen
    have HI := aa jA
    have HD := aa Kn
    have HL := aa Kf
    clear hi hz dJ ft pZ jA uW uV Ba c0 QW nr Kl Kn Kf rQ
    by_cases h0 : lX sc t = 0
    · rw [h0] at lP
      have H0 := aa h0
      clear h0
      gi_wp2
      have h := HI.out
      refine ⟨KeepsOthers.refl _, ⟨Nat.le_refl _, fun _ _ _ => rfl⟩, ⟨h.below, h.res, h.nm, ?_, h.size⟩⟩
      rw [h.look, HD.out, HL.out, if_pos H0.out]; simp
    · have dr : (lX sc t != 0) = true := by simp [h0]
      have H0 := aa h0
      clear h0
      gi_wp2
      have h := HI.out
      have vB := h.size
      have uP : look E t = lX sc t := by rw [h.look, HD.out, HL.out, if_neg H0.out]
      refine ⟨KeepsOthers.setCell _ _ _, ⟨rfl, h.below.setCell (p := ⟨w.heap.size + 1, 0, none⟩) (by show w.heap.size ≤ w.heap.size + 1; omega) _, ?_, by rw [uP]; exact H0.out, by simp [World.setCell]; omega⟩⟩
      rw [uP]
      exact h.res.set _
  case stop =>
    rintro D cc pre W hD _ hx hK
    obtain rfl := hx.ret
    have hb3 := hx.below
    have r0 := hx.res
    have HO := aa hx.ne
    clear hx uW uV Ba c0
    gi_wp2
    refine ⟨by simp, .inl ⟨_, _, rfl, run_takeDeferred hK, ?_⟩⟩
    have gp := grownBy_putObj' W D (.deferred none)
    have p0 := (r0.kept gp (fun e => by have := Option.some.inj e; omega)).cell
    refine ⟨.int .i64 (look E t), by simp [results, Tryz.results118, go_sem, p0], fun h => absurd h HO.out, fun _ => rfl, ?_⟩
    exact bW1
  case done =>
    rintro D xs W hD hS hi hK
    have uP : look E t = 0 := by
      rw [hi.look, HEL0.out _ (by omega)]; rfl
    have HO := aa uP
    have HI := aa hi
    have HK := aa hK
    clear hS hi hK uW uV Ba c0 uP
    gi_wp2
    refine ⟨by simp, .inl ⟨_, _, rfl, run_takeDeferred HK.out, ?_⟩⟩
    have gp := grownBy_putObj' W D (.deferred none)
    have hb3 := HI.out.below
    refine ⟨fun _ => rfl, fun h => absurd HO.out h, ?_⟩
    exact bW1
theorem ivar : eO := by
 intro K w0 O s ret loops ag w t p hS ht
 refine (FZ K w0 O s ret loops ag w t p hS ht).mono ?_
 rintro e w' ⟨h1, h2, h3⟩
 by_cases h0 : look s.1 t = 0
 ·rw [if_pos h0]
  exact ⟨h1 h0, h3.mono (by have := hS.lt; have := hS.ok.cl; omega)⟩
 ·rw [if_neg h0]
  exact ⟨h2 h0, hS.calm h3⟩
end
def Fh (T : Nd) : Prop := ∀ (w : World) (v : Value) (hi : Nat), T.Fine → hi ≤ w.heap.size → Row 0 hi w T v →
 Calls Tryz.prog 105 #[T.val v] w fun e w' => e = .returned (.bool (cL T)) ∧ Below w.heap.size w w'
theorem DF (T : Nd) (ih : ∀ i, i < T.len → Fh (T.kids i)) (w : World) (v : Value) (hi : Nat) (hf : T.Fine) (cY : hi ≤ w.heap.size) (hr : Row 0 hi w T v) :
  Calls Tryz.prog 135 #[v, .func (.func 105) #[] #[]] w fun e w' => (∃ i : Int, e = .returned (.int .i64 i) ∧ decide (0 ≤ i) = fL (fun i => cL (T.kids i)) T.len) ∧ Below w.heap.size w w' := by
 have hn := T.fine_len hf
 obtain ⟨a, cap, rfl, b7, hq⟩ := ar.1 hr
 have HR := aa hq
 have HF := aa hf
 have Jq := aa ih
 clear hq hr ih hf
 go_enter Tryz.func135, Tryz.ntmps135
 go_wp2
 go_loopw [8] (fun i wr => ∃ j : Nat, j ≤ T.len ∧ i = .int .i64 j ∧ fL (fun i => cL (T.kids i)) j = false ∧ Below w.heap.size w wr) (fun i _ => T.len - (intOf i).toNat)
 case atStart => exact ⟨0, Nat.zero_le _, rfl, rfl, Below.refl _ _⟩
 case round =>
  obtain ⟨j, hj, rfl, Es, hb⟩ := hrel
  have fC : w.heap.size ≤ wr.heap.size := hb.size
  have HB := aa hb
  have Fv := aa Es
  clear hb Es
  by_cases bB : j < T.len
  ·rcases HR.out with h0 | ⟨g, off, rfl, h1, h2, h3⟩
   ·omega
   obtain ⟨u, e0, e1, e2, e3, hu⟩ := h3 j bB
   have iW : g < w.heap.size := by omega
   rw [← HB.out.cell (p := ⟨g, _, none⟩) iW] at e0 e1 e2 e3
   have HC := aa (Jq.out j bB wr u hi (Nd.fine_kid HF.out bB) (by omega) (ah HB.out cY hu))
   obtain ⟨au, qu, Hu, pV, AU⟩ := ar.1 hu
   subst Hu
   unfold Nd.val at HC
   have rO : (j : Int) < (T.len : Int) := by omega
   clear h3 hu AU
   cases A7 : cL (T.kids j) with
   |true =>
    rw [A7] at HC
    have HA : Hid (fL (fun i => cL (T.kids i)) T.len = true) := by
     have bj : ∀ n, j < n → fL (fun i => cL (T.kids i)) n = true := by
      intro n hn
      induction n with
      |zero => omega
      |succ n ih =>
       simp only [fL, Bool.or_eq_true]
       by_cases e : j = n
       ·subst e; exact .inr A7
       ·exact .inl (ih (by omega))
     exact bj _ bB
    clear A7
    go_wp2_with (go_at_call 105; refine HC.out.mono ?_; rintro e w1 ⟨rfl, hb1⟩)
    go_ret
    exact ⟨⟨_, rfl, by rw [HA.out]; simp⟩, HB.out.trans (hb1.mono fC)⟩
   |false =>
    rw [A7] at HC
    have HN : Hid (fL (fun i => cL (T.kids i)) (j + 1) = false) := by
     unfold Hid; simp only [fL, Fv.out, A7, Bool.or_self]
    clear A7
    go_wp2_with (go_at_call 105; refine HC.out.mono ?_; rintro e w1 ⟨rfl, hb1⟩)
    exact ⟨⟨j + 1, by omega, by go_num, HN.out, HB.out.trans (hb1.mono fC)⟩, by simp [intOf]; omega⟩
  ·go_wp2
   go_ret
   obtain rfl : j = T.len := by omega
   exact ⟨⟨_, rfl, by rw [Fv.out]; simp⟩, HB.out⟩
theorem contains_of (T : Nd) (ih : ∀ i, i < T.len → Fh (T.kids i)) (w : World) (v : Value) (hi : Nat) (hf : T.Fine) (cY : hi ≤ w.heap.size) (hr : Row 0 hi w T v) :
  Calls Tryz.prog 128 #[v, .func (.func 105) #[] #[]] w fun e w' => e = .returned (.bool (fL (fun i => cL (T.kids i)) T.len)) ∧ Below w.heap.size w w' := by
 have HC := aa (DF T ih w v hi hf cY hr)
 obtain ⟨a, cap, rfl, b7, hq⟩ := ar.1 hr
 generalize fL (fun i => cL (T.kids i)) T.len = ans at *
 clear hq hr ih hf
 go_enter Tryz.func128, Tryz.ntmps128
 go_wp2_with (go_at_call 135; refine HC.out.mono ?_; rintro e w1 ⟨⟨i, rfl, rfl⟩, hb1⟩)
 go_ret
 exact ⟨rfl, hb1⟩
theorem DL (T : Nd) (ih : ∀ i, i < T.len → Fh (T.kids i)) : Fh T := by
 intro w v hi hf cY hr
 have hn := T.fine_len hf
 rw [sm]
 have HC := aa (fun o => contains_of T ih (w.alloc o) v hi hf (by simp; omega) (ah (bA) cY hr))
 obtain ⟨a, cap, rfl, b7, hq⟩ := ar.1 hr
 have dY := aa (fun o => (bO w o))
 unfold Nd.val
 by_cases qK : T.kind = 17
 ·rw [if_pos qK, qK]
  exact bW2
 rw [if_neg qK]
 have h17' : (T.kind == 17) = false := bn qK
 by_cases mS : T.kind = 11
 ·rw [if_pos (.inl mS)]
  rw [mS] at *
  exact bW2
 by_cases rU : T.kind = 15
 ·rw [if_pos (.inr rU)]
  rw [rU] at *
  exact bW2
 rw [if_neg (by omega)]
 have h11' : (T.kind == 11) = false := bn mS
 have h15' : (T.kind == 15) = false := bn rU
 clear hq hr ih qK mS rU hf
 generalize fL (fun i => cL (T.kids i)) T.len = ans at *
 generalize T.kind = tk at *
 go_enter Tryz.func105, Tryz.ntmps105
 go_wp2_with (go_at_call 128; refine (HC.out _).mono ?_; rintro e w1 ⟨rfl, hb1⟩)
 exact bW5
theorem Ht (T : Nd) : Fh T := by
 induction T with
 |nil => exact DL _ fun i hi => absurd hi (Nat.not_lt_zero i)
 |mk k n s len kids ih => exact DL _ fun i _ => ih i
def rj (T : Nd) : Prop := ∀ (w : World) (v : Value) (hi : Nat), T.Fine → hi ≤ w.heap.size → Row 0 hi w T v →
 Calls Tryz.prog 94 #[T.val v] w fun e w' => e = .returned (.bool (fz T)) ∧ Below w.heap.size w w'
theorem sR {T : Nd} {w : World} {hi : Nat} {v : Value} (hf : T.Fine) (hr : Row 0 hi w T v) (ih : ∀ i, i < T.len → rj (T.kids i)) (cY : hi ≤ w.heap.size) (h0 : T.len ≠ 0) : ∃ g off cap, v = .slice (some ⟨g, off, none⟩) T.len cap ∧ g < hi ∧ (T.len ≤ cap ∧ cap ≤ 9223372036854775807) ∧ ∀ i, i < T.len →
    ∃ u, (∀ W, Below w.heap.size w W → W.cell? ⟨g, off + i * 4, none⟩ = some (.int .i64 (T.kids i).kind) ∧ W.cell? ⟨g, off + i * 4 + 1, none⟩ = some (.int .i64 (T.kids i).num) ∧
        W.cell? ⟨g, off + i * 4 + 2, none⟩ = some (.string (T.kids i).name) ∧ W.cell? ⟨g, off + i * 4 + 3, none⟩ = some u) ∧
      ∀ W, Below w.heap.size w W → (Calls Tryz.prog 94 #[.agg #[.int .i64 (T.kids i).kind, .int .i64 (T.kids i).num, .string (T.kids i).name, u]] W fun e w' => e = .returned (.bool (fz (T.kids i))) ∧ Below W.heap.size W w') ∧
        (Calls Tryz.prog 105 #[.agg #[.int .i64 (T.kids i).kind, .int .i64 (T.kids i).num, .string (T.kids i).name, u]] W fun e w' => e = .returned (.bool (cL (T.kids i))) ∧ Below W.heap.size W w') := by
  obtain ⟨g, off, cap, hv, hg, hc, hk⟩ := cN hr h0
  refine ⟨g, off, cap, hv, hg, hc, fun i fS => ?_⟩
  obtain ⟨u, h1, h2⟩ := hk i fS
  refine ⟨u, fun W hb => h1 W (hb.mono cY), fun W hb => ⟨?_, ?_⟩⟩
  · exact ih i fS W u hi (Nd.fine_kid hf fS) (Nat.le_trans cY hb.size) (ah (hb.mono cY) lr h2)
  · exact Ht (T.kids i) W u hi (Nd.fine_kid hf fS) (Nat.le_trans cY hb.size) (ah (hb.mono cY) lr h2)
theorem Qq {T : Nd} (hk : T.kind = 4) (ih : ∀ i, i < T.len → rj (T.kids i)) : rj T := by
 intro w v hi hf cY hr
 have hn := T.fine_len hf
 rw [jv, if_neg (by omega), if_pos hk]
 have dY := aa (fun o => bO w o)
 have bI := jz
 by_cases h0 : T.len = 0
 ·obtain ⟨a, cap, rfl, b7, hq⟩ := ar.1 hr
  unfold Nd.val
  rw [hk, h0]
  exact bW3
 ·obtain ⟨g, off, cap, rfl, hg, b7, aQ⟩ := sR hf hr ih cY h0
  obtain ⟨m, hm⟩ : ∃ m, T.len = m + 1 := ⟨T.len - 1, by omega⟩
  obtain ⟨u, hc, uQ⟩ := aQ m (by omega)
  have HC := aa (hc _ (dY.out (.cells #[.int .i64 4, .int .i64 T.num, .string T.name, .slice (some ⟨g, off, none⟩) T.len cap] 25)))
  have HE := aa (fun W hb => (uQ W hb).1)
  unfold Nd.val
  rw [hk]
  have gh : (0 : Int) < (T.len : Int) := by omega
  have e1 : T.len - 1 = m := by omega
  have e2 : decide (0 < T.len) = true := decide_eq_true (by omega)
  have hlm : (T.len : Int) - 1 = m := by omega
  have Ec : m < T.len := by omega
  rw [e1, e2, Bool.true_and]
  clear hr ih hc uQ aQ hf hk e1 hm
  generalize T.len = L at *
  generalize T.kids m = M at *
  obtain ⟨c0, c1, c2, c3⟩ := HC.out
  have fO : g < w.heap.size := by omega
  generalize fz M = eb at *
  go_enter Tryz.func94, Tryz.ntmps94
  go_wp2_with (go_at_call 94; refine (HE.out _ (dY.out _)).mono ?_; rintro e w1 ⟨rfl, hb1⟩)
  exact bW5
theorem L0 {T : Nd} (hk : T.kind = 10) (ih : ∀ i, i < T.len → rj (T.kids i)) : rj T := by
 intro w v hi hf cY hr
 have hn := T.fine_len hf
 rw [jv, if_neg (by omega), if_neg (by omega), if_pos hk]
 have dY := aa (fun o => bO w o)
 by_cases h0 : T.len = 3
 ·obtain ⟨g, off, cap, rfl, hg, b7, aQ⟩ := sR hf hr ih cY (by omega)
  obtain ⟨u1, ed, iX⟩ := aQ 1 (by omega)
  obtain ⟨u2, iy, pX⟩ := aQ 2 (by omega)
  have fD := aa ed
  have mU := aa iy
  have tC := aa (fun W hb => (iX W hb).1)
  have Jt := aa (fun W hb => (pX W hb).1)
  unfold Nd.val
  rw [hk]
  rw [h0] at *
  have e2 : decide (3 = 3) = true := by decide
  rw [e2, Bool.true_and]
  clear hr ih ed iX iy pX aQ hf hk e2
  generalize T.kids 1 = M1 at *
  generalize T.kids 2 = M2 at *
  obtain ⟨gG, gB, gE, gA⟩ := fD.out _ (dY.out (.cells #[.int .i64 10, .int .i64 T.num, .string T.name, .slice (some ⟨g, off, none⟩) 3 cap] 25))
  simp only [Nat.one_mul] at gG gB gE gA
  have fO : g < w.heap.size := by omega
  cases hb1 : fz M1 with
  |false =>
   rw [hb1] at tC
   clear hb1
   go_enter Tryz.func94, Tryz.ntmps94
   go_wp2_with (go_at_call 94; refine (tC.out _ (dY.out _)).mono ?_; rintro e w1 ⟨rfl, hb1⟩)
   exact bW5
  |true =>
   rw [hb1] at tC
   clear hb1
   have P1 : Hid True := trivial
   generalize fz M2 = eb at *
   go_enter Tryz.func94, Tryz.ntmps94
   go_wp2_with (first
    |(clear P1; go_at_call 94; refine (tC.out _ (dY.out _)).mono ?_; rintro e w1 ⟨rfl, hb1⟩; have eJ := (dY.out _).trans (hb1.mono (by simp)); obtain ⟨qM, qL, oi, oh⟩ := mU.out _ eJ; have k3 : w1.cell? ⟨w.heap.size, 3, none⟩ = some (.slice (some ⟨g, off, none⟩) 3 cap) := (hb1.cell (p := ⟨w.heap.size, 3, none⟩) (by simp)).trans (by simp); have Bz := aa eJ; clear eJ hb1)
    |(go_at_call 94; refine (Jt.out _ Bz.out).mono ?_; rintro e w2 ⟨rfl, hb2⟩))
   go_ret
   exact ⟨rfl, Bz.out.trans (hb2.mono Bz.out.size)⟩
 ·obtain ⟨a, cap, rfl, b7, hq⟩ := ar.1 hr
  unfold Nd.val
  have e2 : decide (T.len = 3) = false := decide_eq_false h0
  have e3 : ((T.len : Int) == 3) = false := bn (by omega)
  exact bW0
theorem LZ {T : Nd} (hk : T.kind = 11) (ih : ∀ i, i < T.len → rj (T.kids i)) : rj T := by
 intro w v hi hf cY hr
 have hn := T.fine_len hf
 rw [jv, if_neg (by omega), if_neg (by omega), if_neg (by omega), if_pos hk]
 have dY := aa (fun o => bO w o)
 by_cases h0 : T.len = 1
 ·obtain ⟨g, off, cap, rfl, hg, b7, aQ⟩ := sR hf hr ih cY (by omega)
  obtain ⟨u1, ed, iX⟩ := aQ 0 (by omega)
  have fD := aa ed
  have tC := aa (fun W hb => (iX W hb).2)
  unfold Nd.val
  rw [hk]
  rw [h0] at *
  have e2 : decide (1 = 1) = true := by decide
  rw [e2, Bool.true_and]
  clear hr ih ed iX aQ hf hk e2
  generalize T.kids 0 = M1 at *
  obtain ⟨gG, gB, gE, gA⟩ := fD.out _ (dY.out (.cells #[.int .i64 11, .int .i64 T.num, .string T.name, .slice (some ⟨g, off, none⟩) 1 cap] 25))
  simp only [Nat.zero_mul, Nat.add_zero] at gG gB gE gA
  have fO : g < w.heap.size := by omega
  generalize cL M1 = eb at *
  have Q8 : ∀ (x : Bool) (w : World), (Op.unary .not (.bool x)).run Tryz.prog w = .ok (.bool (!x)) w := fun _ _ => rfl
  go_enter Tryz.func94, Tryz.ntmps94
  go_wp2_with (go_at_call 105; refine (tC.out _ (dY.out _)).mono ?_; rintro e w1 ⟨rfl, hb1⟩)
  exact bW5
 ·obtain ⟨a, cap, rfl, b7, hq⟩ := ar.1 hr
  unfold Nd.val
  have e2 : decide (T.len = 1) = false := decide_eq_false h0
  have e3 : ((T.len : Int) == 1) = false := bn (by omega)
  exact bW0
theorem DK (T : Nd) (ih : ∀ i, i < T.len → rj (T.kids i)) : rj T := by
 by_cases h4 : T.kind = 4
 ·exact Qq h4 ih
 by_cases rW : T.kind = 10
 ·exact L0 rW ih
 by_cases mS : T.kind = 11
 ·exact LZ mS ih
 intro w v hi hf cY hr
 rw [jv]
 have dY := aa (fun o => bO w o)
 obtain ⟨a, cap, rfl, b7, hq⟩ := ar.1 hr
 unfold Nd.val
 by_cases rV : T.kind = 12
 ·rw [if_pos (.inl rV), rV]
  exact bW3
 by_cases xy : T.kind = 21
 ·rw [if_pos (.inr xy), xy]
  exact bW3
 rw [if_neg (by omega), if_neg h4, if_neg rW, if_neg mS]
 have q4 : (T.kind == 4) = false := bn h4
 have q10 : (T.kind == 10) = false := bn rW
 have q11 : (T.kind == 11) = false := bn mS
 have q12 : (T.kind == 12) = false := bn rV
 have q21 : (T.kind == 21) = false := bn xy
 clear hr hq ih h4 rW mS rV xy
 generalize T.kind = tk at *
 exact bW6
theorem Hr (T : Nd) : rj T := by
 induction T with
 |nil => exact DK _ fun i hi => absurd hi (Nat.not_lt_zero i)
 |mk k n s len kids ih => exact DK _ fun i _ => ih i
theorem pH (k n : Int) (s : ByteArray) (g off len cap : Nat) (w : World) (hl : len + 1 ≤ cap) (hc : cap ≤ 9223372036854775807) :
  Calls Tryz.prog 49 #[.agg #[.int .i64 k, .int .i64 n, .string s, .slice (some ⟨g, off, none⟩) (len + 1) cap]] w fun e w' => e = .returned (.slice (some ⟨g, off, none⟩) len cap) ∧ w' = w.alloc (.cells #[.int .i64 k, .int .i64 n, .string s, .slice (some ⟨g, off, none⟩) (len + 1) cap] 25) := by
 have hlm : ((len + 1 : Nat) : Int) - 1 = len := by omega
 have hlm2 : (len : Int) + 1 - 1 = len := by omega
 have Kf : (len : Int) ≤ (cap : Int) := by omega
 have hlc2 : len ≤ cap := by omega
 go_enter Tryz.func49, Tryz.ntmps49
 go_wp2
 go_ret
 exact ⟨rfl, rfl⟩
theorem IS.setF {K : IK} {w0 : World} {O : Nat → Prop} {s : CS} {ret loops ag : Int} {w : World} (h : IS K w0 O s ret loops ag w) (f0 f2 f3 : Value) (n : Int) :
  IS K w0 O s n loops ag ((((w.setCell ⟨K.cb, 3, none⟩ f0).setCell ⟨K.cb, 4, none⟩ (.int .i64 n)).setCell ⟨K.cb, 5, none⟩ f2).setCell ⟨K.cb, 6, none⟩ f3) := by
 have go : ∀ (W : World) (r : Int) (i : Nat) (x : Value), IS K w0 O s r loops ag W → (i = 3 ∨ i = 5 ∨ i = 6) → IS K w0 O s r loops ag (W.setCell ⟨K.cb, i, none⟩ x) := by
  intro W r i x h hi
  obtain ⟨sv, tv, bs, h1, h2⟩ := h.is
  obtain ⟨g0, g2, g3, hb⟩ := h1.blk
  have pV := h.ok.cu
  have jH : IRaw K (W.setCell ⟨K.cb, i, none⟩ x) sv tv bs s r loops ag := by
   refine ⟨?_, ownsRow_setCell_below h1.sc (show K.cb < K.up from pV) _, ownsRow_setCell_below h1.ty (show K.cb < K.up from pV) _, h1.maps.same fun b FI => Below.heap_setCell W ⟨K.cb, i, none⟩ _ b fun e' => ?_⟩
   ·rcases hi with rfl | rfl | rfl
    ·exact ⟨x, g2, g3, by rw [heap_setCell_same W K.cb _ _ _ _ hb]; simp⟩
    ·exact ⟨g0, x, g3, by rw [heap_setCell_same W K.cb _ _ _ _ hb]; simp⟩
    ·exact ⟨g0, g2, x, by rw [heap_setCell_same W K.cb _ _ _ _ hb]; simp⟩
   ·have := (h1.maps.mem b FI).1; have e'' : b = K.cb := e'; omega
  exact h.step h1 h2 jH (fun k hk => .inl hk) h.len (Kept.setCell (S := fun k => k = K.cb ∨ Own sv tv bs k) ⟨K.cb, i, none⟩ _ (.inl rfl))
 have go4 : ∀ (W : World) (r : Int), IS K w0 O s r loops ag W → IS K w0 O s n loops ag (W.setCell ⟨K.cb, 4, none⟩ (.int .i64 n)) := by
  intro W r h
  obtain ⟨sv, tv, bs, h1, h2⟩ := h.is
  obtain ⟨g0, g2, g3, hb⟩ := h1.blk
  have pV := h.ok.cu
  have jH : IRaw K (W.setCell ⟨K.cb, 4, none⟩ (.int .i64 n)) sv tv bs s n loops ag := by
   refine ⟨⟨g0, g2, g3, by rw [heap_setCell_same W K.cb _ _ _ _ hb]; simp⟩, ownsRow_setCell_below h1.sc (show K.cb < K.up from pV) _, ownsRow_setCell_below h1.ty (show K.cb < K.up from pV) _, h1.maps.same fun b FI => Below.heap_setCell W ⟨K.cb, 4, none⟩ _ b fun e' => ?_⟩
   have := (h1.maps.mem b FI).1; have e'' : b = K.cb := e'; omega
  exact h.step h1 h2 jH (fun k hk => .inl hk) h.len (Kept.setCell (S := fun k => k = K.cb ∨ Own sv tv bs k) ⟨K.cb, 4, none⟩ _ (.inl rfl))
 exact go _ _ 6 _ (go _ _ 5 _ (go4 _ _ (go _ _ 3 _ h (.inl rfl))) (.inr (.inl rfl))) (.inr (.inr rfl))
theorem IS.frees {K : IK} {w0 : World} {O : Nat → Prop} {s : CS} {ret loops ag : Int} {w : World} (h : IS K w0 O s ret loops ag w) (i : Nat) : w.frozen? ⟨K.cb, i, none⟩ = false := by
 obtain ⟨sv, tv, bs, h1, h2⟩ := h.is
 exact h1.free i
theorem IS.fcells {K : IK} {w0 : World} {O : Nat → Prop} {s : CS} {ret loops ag : Int} {w : World} (h : IS K w0 O s ret loops ag w) : ∃ f0 f2 f3, w.cell? ⟨K.cb, 3, none⟩ = some f0 ∧ w.cell? ⟨K.cb, 4, none⟩ = some (.int .i64 ret) ∧ w.cell? ⟨K.cb, 5, none⟩ = some f2 ∧ w.cell? ⟨K.cb, 6, none⟩ = some f3 := by
 obtain ⟨sv, tv, bs, h1, h2⟩ := h.is
 obtain ⟨f0, f2, f3, hb⟩ := h1.blk
 exact ⟨f0, f2, f3, by simp [World.cell?, hb], by simp [World.cell?, hb], by simp [World.cell?, hb], by simp [World.cell?, hb]⟩
theorem Dd {T : Nd} {X : List Int} : ∀ {n : Nat} {s : CS}, j4 T X n = .ok s → s.1.length = 1 := by
 intro n
 induction n with
 |zero => intro s h; injection h with h; subst h; rfl
 |succ n ih =>
  intro s h
  rw [lM] at h
  obtain ⟨r, h1, h2⟩ := bg h
  have := ih h1
  unfold mD at h2
  split at h2
  ·cases h2
  ·injection h2 with h2; subst h2
   cases hr : r.1 with
   |nil => rw [hr] at this; simp at this
   |cons l E => rw [hr] at this; simpa [fW] using this
theorem Hq {T : Nd} (hF : cZ T = true) (K : IK) (w0 : World) (O : Nat → Prop) (X : List Int) (ret : Int) (w : World) (v : Value) (hS : IS K w0 O ([], X) ret 0 0 w) (hE : IEnv K w) (hN : INd K w T v) (aq : X.length + T.size ≤ K.N) :
  Calls Tryz.prog 70 #[.pointer (some ⟨K.cb, 0, none⟩), T.val v] w (kJ K w (ja K.F T X) fun X' e w1 => e = .returned (.tuple #[]) ∧ IS K w0 O ([], X') T.num 0 0 w1) := by
 obtain ⟨hk, hl, uI, q8, jD, Ms⟩ := EB hF
 have dm := hS.ok.few
 have hn := T.fine_len hN.fine
 obtain ⟨m, hm⟩ : ∃ m, T.len = m + 1 := ⟨T.len - 1, by omega⟩
 have FE : T.len - 1 = m := by omega
 obtain ⟨g, off, cap, hv, iW, b7, aQ⟩ := cN hN.row (by omega)
 subst hv
 rw [FE] at q8 jD
 have bS := T.size_eq
 have fe : K.lo ≤ w.heap.size := by have := hS.lt; have := hS.ok.cl; omega
 obtain ⟨O1, az, aW, bp, aS⟩ := hS.boxed (nO T (.slice (some ⟨g, off, none⟩) T.len cap))
 have cJ := aa bp
 have bz := aa aS
 have fc := aa aW
 have iA := aa (ia az (by show X.length + 1 ≤ K.N; omega))
 have NZ := aa (fun n (hn : n ≤ m) => sI (X := X) (m := m) (fun i hi => (uI i (by omega)).1) hn)
 have kH := aa aQ
 have HPAR := aa uI
 have BX := aa hE
 have KP := aa hN
 have bI := jz
 have N6 := aa (fun i (h : i < T.len) => bP T X.length h)
 have HENT := aa (fun (W : World) (r : Int) (hW : IS K (w.alloc (nO T (.slice (some ⟨g, off, none⟩) T.len cap))) O1 (ab ([], X)) r 0 0 W) => dx hW (Nat.zero_le _))
 unfold Nd.val at *
 have yY : (T.len : Int) - 1 = m := by omega
 have BG : m < T.len := by omega
 have hmI : (m : Int) < (T.len : Int) := by omega
 have iB := aa FE
 have zx := aa q8
 have yj := aa jD
 have o4 := aa aq
 have HPO := aa (fun W => pH T.kind T.num T.name g off m cap W (by omega) b7.2)
 rw [← hm] at HPO
 clear hS hE hN az aW bp aS aQ uI hk hm FE q8 jD hF aq bS
 go_enter Tryz.func70, Tryz.ntmps70
 go_wp2_with (first
  |(go_at_call 69; refine iA.out.mono ?_; rintro e w1 ⟨rfl, az⟩; obtain ⟨b0, b1, b2, b3⟩ := ai (cJ.out _ _ _ _ _ az); have fr3 := az.frees 3; have fr4 := az.frees 4; have fr5 := az.frees 5; have fr6 := az.frees 6; obtain ⟨f0, f2, f3, k3, k4, k5, k6⟩ := az.fcells; have bb := aa az; clear az)
  |(go_at_call 90; refine (HENT.out _ _ (bb.out.setF _ _ _ _)).mono ?_; rintro e w2 ⟨rfl, aD⟩; obtain ⟨b0, b1, b2, b3⟩ := ai (cJ.out _ _ _ _ _ aD); have bM := aa aD; clear aD fr3 fr4 fr5 fr6 k3 k4 k5 k6)
  |(go_at_call 49; refine (HPO.out _).mono ?_; rintro e w3 ⟨rfl, rfl⟩))
 go_loopw [19] (fun i wr => ∃ n : Nat, n ≤ m ∧ i = .int .i64 n ∧ ∃ st, j4 T X n = .ok st ∧ IS K (w.alloc (nO T (.slice (some ⟨g, off, none⟩) T.len cap))) O1 st T.num 0 0 wr) (fun i _ => m - (intOf i).toNat)
 case atStart => exact ⟨0, Nat.zero_le _, rfl, _, rfl, bM.out.alloc _⟩
 case round =>
  obtain ⟨n, Eb, rfl, st, aM, cr⟩ := hrel
  obtain ⟨p1, p2, p3, p4⟩ := NZ.out n Eb st aM
  clear b0 b1 b2 b3
  by_cases bB : n < m
  ·have Ib : (n : Int) < (m : Int) := by omega
   have Mr : n < T.len := by omega
   obtain ⟨u, kE, jG⟩ := kH.out n Mr
   obtain ⟨au, qu, hu, pV, AU⟩ := ar.1 jG
   subst hu
   obtain ⟨c0, c1, c2, c3⟩ := kE _ (bz.out _ _ _ _ _ cr)
   obtain ⟨O2, AW, ee, kz, sX⟩ := cr.boxed (.cells #[.int .i64 (T.kids n).kind, .int .i64 (T.kids n).num, .string (T.kids n).name, .slice au (T.kids n).len qu] 25)
   have BJ := N6.out n Mr
   have hsn : 0 < (T.kids n).size := by rw [(T.kids n).size_eq]; omega
   have aq := o4.out
   have ly := aa kz
   have BU := aa (fun s' r' l' o' W (h : IS K _ O2 s' r' l' o' W) => bz.out _ _ _ _ _ (ee s' r' l' o' W h))
   have tB := aa ee
   have Jj := aa (ia AW.drew (by omega))
   have BZ := aa (fun (W : World) (hW : IS K (wr.alloc (.cells #[.int .i64 (T.kids n).kind, .int .i64 (T.kids n).num, .string (T.kids n).name, .slice au (T.kids n).len qu] 25)) O2 (ab st) T.num 0 0 W) => fA hW (T.kids n).name (T.kids n).num st.2.length p2 (by have := (HPAR.out n (by omega)).2.2; omega) (fK (Nd.fine_kid KP.out.fine Mr)) (by rw [aP]; show aO st.1 + 1 ≤ _; omega))
   obtain ⟨d0, d1, d2, d3⟩ := ai (kz _ _ _ _ _ AW)
   have kB : Hid (j4 T X (n + 1) = ij (ab st) (T.kids n).name (T.kids n).num st.2.length) := by unfold Hid; rw [lM, aM]; rfl
   clear kE jG AU cr AW ee kz sX BJ hsn aq aM p1 p2 p3 p4
   cases hM : ij (ab st) (T.kids n).name (T.kids n).num st.2.length with
   |error pe =>
    have Fo := aa hM
    have qC : Hid (ja K.F T X = .error pe) := by
     have : j4 T X (T.len - 1) = .error pe := ie (kB.out.trans hM) (by omega)
     unfold Hid ja
     show CR.bind (j4 T X (T.len - 1)) _ = _
     rw [this]; rfl
    have k_0 := kk
    exact bW7
   |ok s1 =>
    have Fo := aa hM
    have k_1 := kk
    exact bW7
  ·have H3 : m = n := by omega
   subst H3
   obtain ⟨b0, b1, b2, b3⟩ := ai (cJ.out _ _ _ _ _ cr)
   obtain ⟨u, kE, jG⟩ := kH.out m BG
   obtain ⟨au, qu, hu, pV, AU⟩ := ar.1 jG
   subst hu
   have hcn' := kE _ (bz.out _ _ _ _ _ cr)
   obtain ⟨c0, c1, c2, c3⟩ := hcn'
   obtain ⟨O2, AW, ee, kz, sX⟩ := cr.boxed (.cells #[.int .i64 (T.kids m).kind, .int .i64 (T.kids m).num, .string (T.kids m).name, .slice au (T.kids m).len qu] 25)
   have BJ := N6.out m BG
   have aq := o4.out
   have Mc := Dd aM
   have Rb := KP.out.kid BG jG
   have Ia : X.length + 1 ≤ st.2.length := by rw [p1]; unfold aV; omega
   have ly := aa kz
   have BU := aa (fun s' r' l' o' W (h : IS K _ O2 s' r' l' o' W) => bz.out _ _ _ _ _ (ee s' r' l' o' W h))
   have tB := aa ee
   have rS := BU.out _ _ _ _ _ AW
   have HBO2 := aa rS
   have kt := aa (nj zx.out (fun i _ => AK ivar _) K _ O2 st ⟨T.num, 0, 0⟩ 0 _ _ rfl AW (BX.out.later rS) (Rb.later rS) (by omega) yj.out p2 (by omega) (by show 0 + _ ≤ _; omega) (by omega))
   have yb := aa (fun (s2 : CS) (dr : s2.1 ≠ []) (W : World) (hW : IS K (wr.alloc (.cells #[.int .i64 (T.kids m).kind, .int .i64 (T.kids m).num, .string (T.kids m).name, .slice au (T.kids m).len qu] 25)) O2 s2 T.num 0 0 W) => fx hW dr)
   have HLE : Hid (∀ s2, (bY K.F (T.kids m)).sts ⟨T.num, 0, 0⟩ st = .ok s2 → s2.1.length = 1) := by
    intro s2 h
    have := ((iq K.F (T.kids m)).sts yj.out zx.out ⟨T.num, 0, 0⟩) _ s2 p2 h
    exact this.2.1.trans Mc
   have FS := aa (fun (W : World) (hb : Below K.lo w W) => Hr (T.kids m) W _ K.lo Rb.fine (by have := hb.size; omega) (Rb.later hb).row)
   have HFM : Hid (ja K.F T X = CR.bind ((bY K.F (T.kids m)).sts ⟨T.num, 0, 0⟩ st) fun s2 => if T.num ≠ 0 ∧ fz (T.kids m) = false then .error (9, X.length) else .ok s2.2) := by
    unfold Hid ja
    rw [iB.out]
    show CR.bind (j4 T X m) _ = _
    rw [aM]; rfl
   unfold Nd.val at kt FS
   clear kE jG AU cr AW ee kz sX BJ aq aM p1 p2 p3 p4 Rb rS Mc Ia
   cases hM : (bY K.F (T.kids m)).sts ⟨T.num, 0, 0⟩ st with
   |error pe =>
    have Fo := aa hM
    have qC : Hid (ja K.F T X = .error pe) := by unfold Hid; rw [HFM.out, hM]; rfl
    clear hM
    go_wp2_with (first
     |(go_at_call 92; refine (dq kt.out Fo.out).mono ?_; rintro e w4 ⟨rfl, lg⟩))
    refine ⟨rfl, ?_⟩
    rw [fQ qC.out]
    exact ⟨rfl, (HBO2.out).trans lg⟩
   |ok s2 =>
    have Fo := aa hM
    have h1 := HLE.out _ hM
    have yb := aa (yb.out s2 (fun e => by rw [e] at h1; cases h1))
    have Ox : s2.1.tail = [] := by cases hh : s2.1 with
     |nil => rfl
     |cons l E => rw [hh] at h1; simp at h1; simp [h1]
    rw [Ox] at yb
    have zw : Hid (ja K.F T X = if T.num ≠ 0 ∧ fz (T.kids m) = false then .error (9, X.length) else .ok s2.2) := by unfold Hid; rw [HFM.out, hM]; rfl
    clear hM h1 Ox
    by_cases h0 : T.num = 0
    ·have oY : Hid (ja K.F T X = .ok s2.2) := by unfold Hid; rw [zw.out, if_neg (fun h => h.1 h0)]
     have dr : (T.num != 0) = false := by simp [h0]
     clear h0 zw
     go_wp2_with (first
      |(go_at_call 92; refine (cq kt.out Fo.out).mono ?_; rintro e w4 ⟨rfl, fH⟩; obtain ⟨b0, b1, b2, b3⟩ := ai (cJ.out _ _ _ _ _ (tB.out _ _ _ _ _ fH)); obtain ⟨d0, d1, d2, d3⟩ := ai (ly.out _ _ _ _ _ fH); have kG := aa fH; clear fH)
      |(go_at_call 93; refine (yb.out _ kG.out).mono ?_; rintro e w5 ⟨rfl, jh⟩; obtain ⟨b0, b1, b2, b3⟩ := ai (cJ.out _ _ _ _ _ (tB.out _ _ _ _ _ jh)); obtain ⟨d0, d1, d2, d3⟩ := ai (ly.out _ _ _ _ _ jh); have l7 := aa jh; clear jh))
     go_end0
     rw [lu oY.out]
     exact ⟨rfl, fc.out _ _ _ _ _ (tB.out _ _ _ _ _ l7.out)⟩
    ·have dr : (T.num != 0) = true := by simp [h0]
     cases he : fz (T.kids m) with
     |true =>
      have oY : Hid (ja K.F T X = .ok s2.2) := by unfold Hid; rw [zw.out, if_neg (fun h => by rw [he] at h; cases h.2)]
      have k_0 := kk
      exact bW8
     |false =>
      have qC : Hid (ja K.F T X = .error (9, X.length)) := by unfold Hid; rw [zw.out, if_pos ⟨h0, he⟩]
      have k_1 := kk
      exact bW8
end Go.Proofs.YteaocammohcgoaaGreatDoor
