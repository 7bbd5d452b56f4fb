/- The program's checker: slices.Backward over the scopes. -/
import Derived.Test.YtbjianmjdadehaaGreatDoorKfE
import Derived.Test.YtbjianmjdadehaaGreatDoorKaWalk
import Derived.Shelf.Abstract
import Derived.Shelf.RegionOpen
import Derived.WalkKit
import Derived.OwnWalkIn
import Derived.TacticsInMore
import Derived.LoopNIn
import Derived.LoopIn
import Derived.RangeFuncBox
import Derived.Test.YtbjianmjdadehaaGreatDoorKgA
import Derived.Test.YtbjianmjdadehaaGreatDoorKdP
import Derived.Deep.RegionWith
set_option linter.unusedVariables false
namespace Go.Proofs.YtbjianmjdadehaaGreatDoor
open Go.RowKit Go.Shelf
attribute [local go_sem] Oper.semAt_some

def benc (x : Nat × Nat) : Array Value := #[.int .i64 (x.1 : Int), .map (some x.2)]
def BCame (bs : List Nat) (pre : List (Nat × Nat)) (x : Nat × Nat) : Prop := pre.length + x.1 + 1 = bs.length ∧ bs[pre.length]? = some x.2

set_option maxHeartbeats 4000000 in
set_option maxRecDepth 100000 in
theorem bw_any (a : Option Addr) (len cap : Nat) (w : World) :
    Calls Tryz.prog 123 #[.slice a len cap] w fun e w' => e = .returned (.func (.func 127) #[] #[.pointer (some ⟨w.heap.size, 0, none⟩)]) ∧ w' = w.alloc (.cells #[.slice a len cap] 72) := by
  go_enter Tryz.func123, Tryz.ntmps123
  go_wp2
  go_ret
  exact ⟨rfl, rfl⟩

set_option maxHeartbeats 4000000 in
set_option maxRecDepth 100000 in
theorem bw_nil (n : Nat) (br l cap : Nat) (a : Option Addr) (J : List (Nat × Nat) → World → Prop) (W : World) (hc : W.cell? ⟨br, 0, none⟩ = some (.slice a 0 cap)) (h0 : J [] W) :
    CallsIn Fence.wide n Tryz.prog 127 #[.func (.yield l) #[] #[], .pointer (some ⟨br, 0, none⟩)] W fun e W' => (∃ v, e = .returned v) ∧ J [] W' := by
  refine callsIn_of_wp Tryz.func127 rfl trivial ?_ rfl
  simp only [Tryz.ntmps127, List.size_toArray, List.length_cons, List.length_nil, Nat.reduceAdd, Nat.reduceSub, Array.replicate_succ, Array.replicate_zero, List.push_toArray, List.append_toArray, List.nil_append, List.cons_append]
  have hw0 : IntKind.i64.wrap ((0 : Int) - 1) = -1 := by decide
  gi_wp2
  gi_loopw [3] (fun i wr => i = .int .i64 (-1) ∧ J [] wr) (fun _ _ => 0)
  case atStart => exact ⟨rfl, h0⟩
  case round =>
    obtain ⟨rfl, hJs⟩ := hrel
    gi_wp2
    go_end0
    exact ⟨⟨_, rfl⟩, hJs⟩

set_option maxHeartbeats 4000000 in
set_option maxRecDepth 100000 in
theorem bw_in (n : Nat) (hn : 1 ≤ n) (B br g off len cap l : Nat) (bs : List Nat) (hlen : bs.length = len) (hpos : 0 < len) (hlim : len ≤ 1099511627776) (mine : Nat → Prop) (J Jx : List (Nat × Nat) → World → Prop) (W : World) (hbr : br < B) (hg : g < B) (hm : ∀ k, mine k → k ≠ br ∧ k ≠ g)
    (hJz : ∀ pre A, J pre A → B + 2 ≤ A.heap.size)
    (hY : ∀ pre x W1, J pre W1 → BCame bs pre x → YieldAt Fence.wide (n - 1) Tryz.prog l (benc x) W1 fun e W' =>
      (e = .returned (.bool true) ∧ J (pre ++ [x]) W' ∧ KeptF (fun k => mine k ∨ k = B + 1) W1 W') ∨ (e = .returned (.bool false) ∧ Jx (pre ++ [x]) W'))
    (h0 : J [] W) (hc0 : W.cell? ⟨br, 0, none⟩ = some (.slice (some ⟨g, off, none⟩) len cap))
    (hc : ∀ k j b, k + j + 1 = len → bs[k]? = some b → W.cell? ⟨g, off + j, none⟩ = some (.map (some b))) :
    CallsIn Fence.wide n Tryz.prog 127 #[.func (.yield l) #[] #[], .pointer (some ⟨br, 0, none⟩)] W fun e W' => (∃ v, e = .returned v) ∧ ((∃ xs : List (Nat × Nat), xs.length = bs.length ∧ J xs W') ∨ (∃ pre, True ∧ Jx pre W')) := by
  refine callsIn_of_wp Tryz.func127 rfl trivial ?_ rfl
  simp only [Tryz.ntmps127, List.size_toArray, List.length_cons, List.length_nil, Nat.reduceAdd, Nat.reduceSub, Array.replicate_succ, Array.replicate_zero, List.push_toArray, List.append_toArray, List.nil_append, List.cons_append]
  have hw0 : IntKind.i64.wrap ((len : Int) - 1) = (len : Int) - 1 := by simp [IntKind.wrap, IntKind.bits, IntKind.signed]; omega
  gi_wp2
  gi_loopw [3] (fun i wr => ∃ pre : List (Nat × Nat), pre.length ≤ len ∧ i = .int .i64 ((len : Int) - 1 - pre.length) ∧ J pre wr ∧ wr.heap[br]? = W.heap[br]? ∧ wr.heap[g]? = W.heap[g]?) (fun i _ => (intOf i + 1).toNat)
  case atStart => exact ⟨[], by simp, by simp, h0, rfl, rfl⟩
  case round =>
    obtain ⟨pre, hk, hi, hJs, hb1, hb2⟩ := hrel
    have HJ := hid_mk hJs
    clear hw0 h0
    by_cases hlt : pre.length < len
    · obtain ⟨j, hj⟩ : ∃ j, pre.length + j + 1 = len := ⟨len - 1 - pre.length, by omega⟩
      obtain ⟨b, hbk⟩ : ∃ b, bs[pre.length]? = some b := ⟨_, List.getElem?_eq_getElem (by omega)⟩
      have hij : (len : Int) - 1 - pre.length = (j : Int) := by omega
      rw [hij] at hi
      subst hi
      have q0 : wr.cell? ⟨br, 0, none⟩ = some (.slice (some ⟨g, off, none⟩) len cap) := by rw [← hc0]; simp only [World.cell?, hb1]
      have q1 : wr.cell? ⟨g, off + j, none⟩ = some (.map (some b)) := by rw [← hc _ _ _ hj hbk]; simp only [World.cell?, hb2]
      have hw1 : IntKind.i64.wrap ((j : Int) - 1) = (j : Int) - 1 := by simp [IntKind.wrap, IntKind.bits, IntKind.signed]; omega
      have hjl : j < len := by omega
      obtain ⟨fn, tmps, assign, body, hy, hR⟩ := hY pre (j, b) wr hJs ⟨by show pre.length + j + 1 = _; omega, hbk⟩
      dsimp only [benc] at hy
      have HB1 := hid_mk hb1
      have HB2 := hid_mk hb2
      have HJN := hid_mk hj
      have HZ := hid_mk (hJz _ _ hJs)
      have HL := hid_mk hlen
      clear hb1 hb2 hc hc0 hij hk hlt hbk hj hlen hJs hJz
      gi_wp2
      refine hR.mono ?_
      rintro e W3 (⟨rfl, hJ3, hk3⟩ | ⟨rfl, hJx3⟩)
      · have HJ3 := hid_mk hJ3
        have HK3 := hid_mk hk3
        clear hJ3 hk3 hy hR q0 q1
        gi_wp2
        go_roundw
        case rel =>
          have hj := HJN.out
          have hz := HZ.out
          refine ⟨pre ++ [(j, b)], by simp; omega, by simp; omega, HJ3.out, ?_, ?_⟩
          · exact (HK3.out.same br (by omega) (fun h => h.elim (fun h => (hm _ h).1 rfl) (fun h => by omega))).trans HB1.out
          · exact (HK3.out.same g (by omega) (fun h => h.elim (fun h => (hm _ h).2 rfl) (fun h => by omega))).trans HB2.out
        case measure => simp [intOf]; try omega
      · gi_wp2
        refine bodyPost_ret (results_none rfl _ _ _) rfl ?_
        exact ⟨⟨_, rfl⟩, .inr ⟨_, trivial, hJx3⟩⟩
    · have hke : pre.length = len := by omega
      have hij : (len : Int) - 1 - pre.length = -1 := by omega
      rw [hij] at hi
      subst hi
      have HE : Hid (pre.length = bs.length) := by unfold Hid; omega
      clear hij hke hlt hk hJs hc hc0 hb1 hb2 hlen
      gi_wp2
      go_end0
      exact ⟨⟨_, rfl⟩, .inl ⟨_, HE.out, HJ.out⟩⟩
end Go.Proofs.YtbjianmjdadehaaGreatDoor
namespace Go.Proofs.YtbjianmjdadehaaGreatDoor
open Go.RowKit Go.Shelf
attribute [local go_sem] Oper.semAt_some

theorem look_cons {l : List (ByteArray × Int)} (E : Sc) (t : ByteArray) (hf : ∀ q ∈ l, q.2 ≠ 0) : look (l :: E) t = if seek l t = 0 then look E t else seek l t := by
  unfold look seek
  rw [List.flatten_cons, List.find?_append]
  cases h : l.find? (fun p => decide (p.1 = t)) with
  | none => simp
  | some q =>
    have := hf q (List.mem_of_find?_eq_some h)
    simp [this]
theorem Mps.at {w : World} {up : Nat} : ∀ {bs : List Nat} {E : Sc}, Mps w up bs E → ∀ {k b : Nat}, bs[k]? = some b → ∃ l, E[k]? = some l ∧ MapAt w b l.length (scV l)
  | [], [], _, k, b, hb => by simp at hb
  | b0 :: bs, l :: E, h, 0, b, hb => by simp at hb; subst hb; exact ⟨l, rfl, h.1⟩
  | b0 :: bs, l :: E, h, k + 1, b, hb => by simp at hb; simpa using h.2.2.2.at hb
  | [], _ :: _, h, _, _, _ => h.elim
  | _ :: _, [], h, _, _, _ => h.elim

structure VrI (w : World) (E : Sc) (t : ByteArray) (pre : List (Nat × Nat)) (W : World) : Prop where
  below : Below w.heap.size w W
  res : Boxed W (w.heap.size + 1) 3 (.int .i64 0)
  nm : Boxed W w.heap.size 9 (.string t)
  look : look E t = look (E.drop pre.length) t
  size : w.heap.size + 3 ≤ W.heap.size
structure VrX (w : World) (E : Sc) (t : ByteArray) (c : Code) (W : World) : Prop where
  ret : c = .ret
  below : Below w.heap.size w W
  res : Boxed W (w.heap.size + 1) 3 (.int .i64 (look E t))
  ne : look E t ≠ 0
  size : w.heap.size + 3 ≤ W.heap.size

set_option maxHeartbeats 4000000 in
set_option maxRecDepth 100000 in
theorem var_any (K : IK) (w0 : World) (O : Nat → Prop) (s : CS) (ret loops sels : Int) (w : World) (t : ByteArray) (p : Nat) (hS : IS K w0 O s ret loops sels w) (ht : t.size ≤ maxLen) :
    Calls Tryz.prog 110 #[.pointer (some ⟨K.cb, 0, none⟩), .string t, .int .i64 p] w (fun e w' => (look s.1 t = 0 → e = .panicked [{ v := fltV (5, p), recovered := false }]) ∧ (look s.1 t ≠ 0 → e = .returned (.int .i64 (look s.1 t))) ∧ Below w.heap.size w w') := by
  obtain ⟨sv, tv, bs, h1, h2⟩ := hS.is
  obtain ⟨k0, k1, k2, k4, k7, k8⟩ := h1.cells
  have hlt := hS.lt
  have hml := h1.maps.len
  obtain ⟨a, c, hsv, hc1, hc2⟩ := own_shape h1.sc
  have hlim : s.1.length ≤ 1048577 := by have := hS.ok.few; have := hS.len.few; have := hS.len.deep; omega
  have hrow := h1.sc
  have hfull := hS.len.full
  have HM := hid_mk h1.maps
  have HROW : Hid (0 < s.1.length → ∃ g, a = some ⟨g, 0, none⟩ ∧ g < w.heap.size ∧ ∀ k j b, k + j + 1 = s.1.length → bs[k]? = some b → w.cell? ⟨g, 0 + j, none⟩ = some (.map (some b))) := by
    intro hpos
    rcases h1.sc.2 with ⟨e1, e2⟩ | ⟨g, cap, cur, e1, hmore⟩
    · omega
    · have hag : a = some ⟨g, 0, none⟩ := by rw [hsv] at e1; injection e1
      refine ⟨g, hag, (Array.getElem?_eq_some_iff.1 hmore.2.1).1, fun k j b hk hb => ?_⟩
      have := h1.sc.cells (g := g) (by rw [hsv, hag]; rfl) j (.map (some b)) (by
        unfold scRow
        rw [List.getElem?_reverse (by rw [List.length_map]; omega), List.length_map, List.getElem?_map, show bs.length - 1 - j = k by omega, hb]; rfl)
      rw [add_at] at this
      rw [Nat.zero_add]
      exact this
  subst hsv
  generalize hE : s.1 = E at *
  have HEL0 : Hid (∀ n, n = E.length → E.drop n = []) := fun n hn => List.drop_eq_nil_of_le (by omega)
  generalize E.length = len at *
  clear hrow h1 h2 hS hE
  refine (callsIn_wide (n := 3)).1 ?_
  refine callsIn_of_wp_marks Tryz.func110 rfl trivial ?_ rfl
  simp only [Tryz.ntmps110, List.size_toArray, List.length_cons, List.length_nil, Nat.reduceAdd, Nat.reduceSub, Array.replicate_succ, Array.replicate_zero, List.push_toArray, List.append_toArray, List.nil_append, List.cons_append]
  gi_wp2_with ((refine ⟨trivial, ?_⟩; gi_at_call 123; refine (callsIn_wide.2 (bw_any _ _ _ _)).mono ?_; rintro e w' ⟨rfl, rfl⟩))
  obtain ⟨V, hV⟩ : ∃ V, (((w.alloc (.cells #[.string t] 9)).alloc (.cells #[.int .i64 0] 3)).alloc (.cells #[.slice a len c] 72)) = V := ⟨_, rfl⟩
  have hsz : V.heap.size = w.heap.size + 3 := by rw [← hV]; simp
  have hb0 : Below w.heap.size w V := by
    rw [← hV]
    exact (((Below.refl _ w).alloc (Nat.le_refl _) _).alloc (by simp) _).alloc (by simp; omega) _
  have c0 : V.cell? ⟨w.heap.size + 1 + 1, 0, none⟩ = some (.slice a len c) := by rw [← hV]; simp [go_sem]
  have b1 := Boxed.new w 9 (.string t)
  have b2 := Boxed.new (w.alloc (.cells #[.string t] 9)) 3 (.int .i64 0)
  simp only [World.size_alloc] at b1 b2
  have hI0 : VrI w E t [] V := by
    refine ⟨hb0, ?_, ?_, rfl, by omega⟩
    · rw [← hV]; exact b2.alloc _
    · rw [← hV]; exact (b1.alloc _).alloc _
  have hIU : Under V.heap.size (VrI w E t) := fun pre A C h hb => by
    have hz := h.size
    exact ⟨h.below.trans (hb.mono (by omega)), (hb.block _ (by omega)).trans h.res, (hb.block _ (by omega)).trans h.nm, h.look, by have := hb.size; omega⟩
  have hXU : ∀ cc, Under V.heap.size (fun (_ : List (Nat × Nat)) W => VrX w E t cc W) := fun cc pre A C h hb => by
    have hz := h.size
    exact ⟨h.ret, h.below.trans (hb.mono (by omega)), (hb.block _ (by omega)).trans h.res, h.ne, by have := hb.size; omega⟩
  rw [hV]
  clear hV b1 b2
  refine wpIn_rangeFunc_frame (α := Nat × Nat) (encs := benc) (S := fun xs => xs.length = bs.length) (Sp := fun _ => True) (Came := BCame bs) (mine := fun k => k = w.heap.size + 1) rfl (by omega) (gf := 127) (lb := #[.pointer (some ⟨w.heap.size + 1 + 1, 0, none⟩)]) rfl trivial (enters_of Tryz.func127 (by kernel_rfl) rfl)
    (fun l J Jx W hWs hbW hJ hJx hJz hY h0 => by
      have hcell : ∀ b o, b < V.heap.size → W.cell? ⟨b, o, none⟩ = V.cell? ⟨b, o, none⟩ := fun b o hb => hbW.cell (p := ⟨b, o, none⟩) hb
      by_cases hpos : 0 < len
      · obtain ⟨g, hag, hgw, hcs⟩ := HROW.out hpos
        subst hag
        exact bw_in 2 (by omega) V.heap.size (w.heap.size + 1 + 1) g 0 len c l bs hml hpos (by omega) (fun k => k = w.heap.size + 1) J Jx W (by omega) (by omega) (fun k hk => by omega) hJz hY h0 ((hcell _ _ (by omega)).trans c0)
          (fun k j b hk hb => (hcell _ _ (by omega)).trans ((hb0.cell (p := ⟨g, 0 + j, none⟩) hgw).trans (hcs k j b hk hb)))
      · obtain rfl : len = 0 := by omega
        exact (bw_nil 2 (w.heap.size + 1 + 1) l c a J W ((hcell _ _ (by omega)).trans c0) h0).mono fun e W' ⟨he, hj⟩ => ⟨he, .inl ⟨[], by simp; omega, hj⟩⟩)
    (fun _ => rfl) (VrI w E t) (fun cc _ W => VrX w E t cc W) hIU hXU hI0
    (fun x W => { tmps := #[.pointer (some ⟨K.cb, 0, none⟩), .string t, .int .i64 p, undef, .pointer (some ⟨w.heap.size, 0, none⟩), undef, .pointer (some ⟨w.heap.size + 1, 0, none⟩), undef, .map (some x.2), undef, .pointer (some ⟨K.cb, 0, none⟩), .pointer (some ⟨K.cb, 0, none⟩), .pointer (some ⟨K.cb, 1, none⟩), .slice a len c, .func (.func 127) #[] #[.pointer (some ⟨w.heap.size + 1 + 1, 0, none⟩)], .int .i64 (x.1 : Int), .map (some x.2), undef, undef, undef, undef, undef, undef, undef, undef, undef], defers := [] })
    (fun _ W => W) (fun _ W => Below.refl _ _) ?assign ?body ?done ?stop
  case assign =>
    intro l pre x W K _ hK
    simp only [benc]
    gi_wp2
    exact hK
  case body =>
    rintro l pre x W1 W3 r hi hz ⟨hx1, hx2⟩ hW3 hi3
    obtain ⟨sc, hsc, hmap⟩ := HM.out.at hx2
    have hlk := ((hmap.same (hi3.below.block _ hmap.lt)).look (t := 135) Tryz.underlying135 (zeroI W3) ht)
    rw [scV_seek] at hlk
    have hfl := hfull sc (List.mem_of_getElem? hsc)
    have hdrop : E.drop pre.length = sc :: E.drop (pre.length + 1) := by
      obtain ⟨hl, hg⟩ := List.getElem?_eq_some_iff.1 hsc
      rw [List.drop_eq_getElem_cons hl, hg]
    have hlc := look_cons (E.drop (pre.length + 1)) t hfl
    have q := hi3.nm.cell
    have qf := hi3.nm.frozen
    have qr := hi3.res.cell
    have qrf := hi3.res.frozen
    have HI := hid_mk hi3
    have HD := hid_mk hdrop
    have HL := hid_mk hlc
    clear hi hz hx1 hx2 hW3 hi3 hI0 hIU hXU c0 hsc hmap hfl hdrop hlc hfull
    by_cases h0 : seek sc t = 0
    · rw [h0] at hlk
      have H0 := hid_mk h0
      clear h0
      gi_wp2
      have h := HI.out
      refine ⟨KeepsOthers.refl _, ⟨Nat.le_refl _, fun _ _ _ => rfl⟩, ⟨h.below, h.res, h.nm, ?_, h.size⟩⟩
      rw [h.look, HD.out, HL.out, if_pos H0.out]; simp
    · have hne : (seek sc t != 0) = true := by simp [h0]
      have H0 := hid_mk h0
      clear h0
      gi_wp2
      have h := HI.out
      have hz3 := h.size
      have hlook : look E t = seek sc t := by rw [h.look, HD.out, HL.out, if_neg H0.out]
      refine ⟨KeepsOthers.setCell _ _ _, ⟨rfl, h.below.setCell (p := ⟨w.heap.size + 1, 0, none⟩) (by show w.heap.size ≤ w.heap.size + 1; omega) _, ?_, by rw [hlook]; exact H0.out, by simp [World.setCell]; omega⟩⟩
      rw [hlook]
      exact h.res.set _
  case stop =>
    rintro D cc pre W hD _ hx hK
    obtain rfl := hx.ret
    have hb3 := hx.below
    have r0 := hx.res
    have HO := hid_mk hx.ne
    clear hx hI0 hIU hXU c0
    gi_wp2
    refine ⟨by simp, .inl ⟨_, _, rfl, run_takeDeferred hK, ?_⟩⟩
    have gp := grownBy_putObj' W D (.deferred none)
    have p0 := (r0.kept gp (fun e => by have := Option.some.inj e; omega)).cell
    refine ⟨.int .i64 (look E t), by simp [results, Tryz.results110, go_sem, p0], fun h => absurd h HO.out, fun _ => rfl, ?_⟩
    exact hb3.grown gp (by have := hb3.size; omega) (fun k e => by have := Option.some.inj e; omega)
  case done =>
    rintro D xs W hD hS hi hK
    have hlook : look E t = 0 := by
      rw [hi.look, HEL0.out _ (by omega)]; rfl
    have HO := hid_mk hlook
    have HI := hid_mk hi
    have HK := hid_mk hK
    clear hS hi hK hI0 hIU hXU c0 hlook
    gi_wp2
    refine ⟨by simp, .inl ⟨_, _, rfl, run_takeDeferred HK.out, ?_⟩⟩
    have gp := grownBy_putObj' W D (.deferred none)
    have hb3 := HI.out.below
    refine ⟨fun _ => rfl, fun h => absurd HO.out h, ?_⟩
    exact hb3.grown gp (by have := hb3.size; omega) (fun k e => by have := Option.some.inj e; omega)
theorem ivar : IVar := by
  intro K w0 O s ret loops sels w t p hS ht
  refine (var_any K w0 O s ret loops sels w t p hS ht).mono ?_
  rintro e w' ⟨h1, h2, h3⟩
  by_cases h0 : look s.1 t = 0
  · rw [if_pos h0]
    exact ⟨h1 h0, h3.mono (by have := hS.lt; have := hS.ok.cl; omega)⟩
  · rw [if_neg h0]
    exact ⟨h2 h0, hS.calm h3⟩
end Go.Proofs.YtbjianmjdadehaaGreatDoor
namespace Go.Proofs.YtbjianmjdadehaaGreatDoor
open Go.RowKit

set_option maxHeartbeats 4000000 in
set_option maxRecDepth 100000 in
theorem params_any (k n : Int) (s : ByteArray) (g off len cap : Nat) (w : World) (hl : len + 1 ≤ cap) (hc : cap ≤ 9223372036854775807) :
    Calls Tryz.prog 45 #[.agg #[.int .i64 k, .int .i64 n, .string s, .slice (some ⟨g, off, none⟩) (len + 1) cap]] w fun e w' => e = .returned (.slice (some ⟨g, off, none⟩) len cap) ∧ w' = w.alloc (.cells #[.int .i64 k, .int .i64 n, .string s, .slice (some ⟨g, off, none⟩) (len + 1) cap] 30) := by
  have hlm : ((len + 1 : Nat) : Int) - 1 = len := by omega
  have hlm2 : (len : Int) + 1 - 1 = len := by omega
  have hlc : (len : Int) ≤ (cap : Int) := by omega
  have hlc2 : len ≤ cap := by omega
  go_enter Tryz.func45, Tryz.ntmps45
  go_wp2
  go_ret
  exact ⟨rfl, rfl⟩

theorem IS.setF {K : IK} {w0 : World} {O : Nat → Prop} {s : CS} {ret loops sels : Int} {w : World} (h : IS K w0 O s ret loops sels w) (f0 f2 f3 : Value) (n : Int) :
    IS K w0 O s n loops sels ((((w.setCell ⟨K.cb, 3, none⟩ f0).setCell ⟨K.cb, 4, none⟩ (.int .i64 n)).setCell ⟨K.cb, 5, none⟩ f2).setCell ⟨K.cb, 6, none⟩ f3) := by
  have go : ∀ (W : World) (r : Int) (i : Nat) (x : Value), IS K w0 O s r loops sels W → (i = 3 ∨ i = 5 ∨ i = 6) → IS K w0 O s r loops sels (W.setCell ⟨K.cb, i, none⟩ x) := by
    intro W r i x h hi
    obtain ⟨sv, tv, bs, h1, h2⟩ := h.is
    obtain ⟨g0, g2, g3, hb⟩ := h1.blk
    have hcu := h.ok.cu
    have hr2 : IRaw K (W.setCell ⟨K.cb, i, none⟩ x) sv tv bs s r loops sels := by
      refine ⟨?_, ownsRow_setCell_below h1.sc (show K.cb < K.up from hcu) _, ownsRow_setCell_below h1.ty (show K.cb < K.up from hcu) _, h1.maps.same fun b hb' => Below.heap_setCell W ⟨K.cb, i, none⟩ _ b fun e' => ?_⟩
      · rcases hi with rfl | rfl | rfl
        · exact ⟨x, g2, g3, by rw [heap_setCell_same W K.cb _ _ _ _ hb]; simp⟩
        · exact ⟨g0, x, g3, by rw [heap_setCell_same W K.cb _ _ _ _ hb]; simp⟩
        · exact ⟨g0, g2, x, by rw [heap_setCell_same W K.cb _ _ _ _ hb]; simp⟩
      · have := (h1.maps.mem b hb').1; have e'' : b = K.cb := e'; omega
    exact h.step h1 h2 hr2 (fun k hk => .inl hk) h.len (Kept.setCell (S := fun k => k = K.cb ∨ Own sv tv bs k) ⟨K.cb, i, none⟩ _ (.inl rfl))
  have go4 : ∀ (W : World) (r : Int), IS K w0 O s r loops sels W → IS K w0 O s n loops sels (W.setCell ⟨K.cb, 4, none⟩ (.int .i64 n)) := by
    intro W r h
    obtain ⟨sv, tv, bs, h1, h2⟩ := h.is
    obtain ⟨g0, g2, g3, hb⟩ := h1.blk
    have hcu := h.ok.cu
    have hr2 : IRaw K (W.setCell ⟨K.cb, 4, none⟩ (.int .i64 n)) sv tv bs s n loops sels := by
      refine ⟨⟨g0, g2, g3, by rw [heap_setCell_same W K.cb _ _ _ _ hb]; simp⟩, ownsRow_setCell_below h1.sc (show K.cb < K.up from hcu) _, ownsRow_setCell_below h1.ty (show K.cb < K.up from hcu) _, h1.maps.same fun b hb' => Below.heap_setCell W ⟨K.cb, 4, none⟩ _ b fun e' => ?_⟩
      have := (h1.maps.mem b hb').1; have e'' : b = K.cb := e'; omega
    exact h.step h1 h2 hr2 (fun k hk => .inl hk) h.len (Kept.setCell (S := fun k => k = K.cb ∨ Own sv tv bs k) ⟨K.cb, 4, none⟩ _ (.inl rfl))
  exact go _ _ 6 _ (go _ _ 5 _ (go4 _ _ (go _ _ 3 _ h (.inl rfl))) (.inr (.inl rfl))) (.inr (.inr rfl))
theorem IS.frees {K : IK} {w0 : World} {O : Nat → Prop} {s : CS} {ret loops sels : Int} {w : World} (h : IS K w0 O s ret loops sels w) (i : Nat) : w.frozen? ⟨K.cb, i, none⟩ = false := by
  obtain ⟨sv, tv, bs, h1, h2⟩ := h.is
  exact h1.free i
theorem IS.fcells {K : IK} {w0 : World} {O : Nat → Prop} {s : CS} {ret loops sels : Int} {w : World} (h : IS K w0 O s ret loops sels w) : ∃ f0 f2 f3, w.cell? ⟨K.cb, 3, none⟩ = some f0 ∧ w.cell? ⟨K.cb, 4, none⟩ = some (.int .i64 ret) ∧ w.cell? ⟨K.cb, 5, none⟩ = some f2 ∧ w.cell? ⟨K.cb, 6, none⟩ = some f3 := by
  obtain ⟨sv, tv, bs, h1, h2⟩ := h.is
  obtain ⟨f0, f2, f3, hb⟩ := h1.blk
  exact ⟨f0, f2, f3, by simp [World.cell?, hb], by simp [World.cell?, hb], by simp [World.cell?, hb], by simp [World.cell?, hb]⟩
end Go.Proofs.YtbjianmjdadehaaGreatDoor
namespace Go.Proofs.YtbjianmjdadehaaGreatDoor
open Go.RowKit

theorem parC_top {T : Nd} {X : List Int} : ∀ {n : Nat} {s : CS}, parC T X n = .ok s → s.1.length = 1 := by
  intro n
  induction n with
  | zero => intro s h; injection h with h; subst h; rfl
  | succ n ih =>
    intro s h
    rw [parC_succ] at h
    obtain ⟨r, h1, h2⟩ := bind_inv h
    have := ih h1
    unfold paramM at h2
    split at h2
    · cases h2
    · injection h2 with h2; subst h2
      cases hr : r.1 with
      | nil => rw [hr] at this; simp at this
      | cons l E => rw [hr] at this; simpa [pushV] using this

set_option maxHeartbeats 8000000 in
set_option maxRecDepth 100000 in
theorem ifun_of {T : Nd} (hF : funcB T = true) (K : IK) (w0 : World) (O : Nat → Prop) (X : List Int) (ret : Int) (w : World) (v : Value) (hS : IS K w0 O ([], X) ret 0 0 w) (hE : IEnv K w) (hN : INd K w T v) (hfit : X.length + T.size ≤ K.N) :
    Calls Tryz.prog 61 #[.pointer (some ⟨K.cb, 0, none⟩), T.val v] w (Ans K w (funM K.F T X) fun X' e w1 => e = .returned (.tuple #[]) ∧ IS K w0 O ([], X') T.num 0 0 w1) := by
  obtain ⟨hk, hl, hpar, hB4, hBok, hn0⟩ := fo_of hF
  have hfew := hS.ok.few
  have hn := T.fine_len hN.fine
  obtain ⟨m, hm⟩ : ∃ m, T.len = m + 1 := ⟨T.len - 1, by omega⟩
  have hm1 : T.len - 1 = m := by omega
  obtain ⟨g, off, cap, hv, hgl, hcap, hkid⟩ := ck_kid hN.row (by omega)
  subst hv
  rw [hm1] at hB4 hBok
  have hsz := T.size_eq
  have hlo : K.lo ≤ w.heap.size := by have := hS.lt; have := hS.ok.cl; omega
  obtain ⟨O1, hs1, hback1, hbox1, hbl1⟩ := hS.boxed (.cells #[.int .i64 T.kind, .int .i64 T.num, .string T.name, .slice (some ⟨g, off, none⟩) T.len cap] 30)
  have HBX := hid_mk hbox1
  have HBL := hid_mk hbl1
  have HB1 := hid_mk hback1
  have HTK := hid_mk (take_any hs1 (by show X.length + 1 ≤ K.N; omega))
  have HPA := hid_mk (fun n (hn : n ≤ m) => parC_at (X := X) (m := m) (fun i hi => (hpar i (by omega)).1) hn)
  have HKID := hid_mk hkid
  have HPAR := hid_mk hpar
  have HEV := hid_mk hE
  have HND := hid_mk hN
  have hmix : Tryz.prog.follows Departure.mixedOrders = true := by kernel_rfl
  have HKL := hid_mk (fun i (h : i < T.len) => kidAt_le T X.length h)
  have HENT := hid_mk (fun (W : World) (r : Int) (hW : IS K (w.alloc (.cells #[.int .i64 T.kind, .int .i64 T.num, .string T.name, .slice (some ⟨g, off, none⟩) T.len cap] 30)) O1 (take0 ([], X)) r 0 0 W) => enter_any hW (Nat.zero_le _))
  unfold Nd.val at *
  have hL1 : (T.len : Int) - 1 = m := by omega
  have hmT : m < T.len := by omega
  have hmI : (m : Int) < (T.len : Int) := by omega
  have HM1 := hid_mk hm1
  have HB4 := hid_mk hB4
  have HBO := hid_mk hBok
  have HFIT := hid_mk hfit
  have HPO := hid_mk (fun W => params_any T.kind T.num T.name g off m cap W (by omega) hcap.2)
  rw [← hm] at HPO
  clear hS hE hN hs1 hback1 hbox1 hbl1 hkid hpar hk hm hm1 hB4 hBok hF hfit hsz
  go_enter Tryz.func61, Tryz.ntmps61
  go_wp2_with (first
    | (go_at_call 60; refine HTK.out.mono ?_; rintro e w1 ⟨rfl, hs1⟩; obtain ⟨b0, b1, b2, b3⟩ := box_cells (HBX.out _ _ _ _ _ hs1); have fr3 := hs1.frees 3; have fr4 := hs1.frees 4; have fr5 := hs1.frees 5; have fr6 := hs1.frees 6; obtain ⟨f0, f2, f3, k3, k4, k5, k6⟩ := hs1.fcells; have HS1 := hid_mk hs1; clear hs1)
    | (go_at_call 79; refine (HENT.out _ _ (HS1.out.setF _ _ _ _)).mono ?_; rintro e w2 ⟨rfl, hs2⟩; obtain ⟨b0, b1, b2, b3⟩ := box_cells (HBX.out _ _ _ _ _ hs2); have HS2 := hid_mk hs2; clear hs2 fr3 fr4 fr5 fr6 k3 k4 k5 k6)
    | (go_at_call 45; refine (HPO.out _).mono ?_; rintro e w3 ⟨rfl, rfl⟩))
  go_loopw [19] (fun i wr => ∃ n : Nat, n ≤ m ∧ i = .int .i64 n ∧ ∃ st, parC T X n = .ok st ∧ IS K (w.alloc (.cells #[.int .i64 T.kind, .int .i64 T.num, .string T.name, .slice (some ⟨g, off, none⟩) T.len cap] 30)) O1 st T.num 0 0 wr) (fun i _ => m - (intOf i).toNat)
  case atStart => exact ⟨0, Nat.zero_le _, rfl, _, rfl, HS2.out.alloc _⟩
  case round =>
    obtain ⟨n, hn', rfl, st, hst, hss⟩ := hrel
    obtain ⟨p1, p2, p3, p4⟩ := HPA.out n hn' st hst
    clear b0 b1 b2 b3
    by_cases hlt : n < m
    · have hji : (n : Int) < (m : Int) := by omega
      have hnT : n < T.len := by omega
      obtain ⟨u, hcn, hrn⟩ := HKID.out n hnT
      obtain ⟨au, qu, hu, hcu, hqu⟩ := row_eq.1 hrn
      subst hu
      obtain ⟨c0, c1, c2, c3⟩ := hcn _ (HBL.out _ _ _ _ _ hss)
      obtain ⟨O2, hq1, hback2, hbox2, hbl2⟩ := hss.boxed (.cells #[.int .i64 (T.kids n).kind, .int .i64 (T.kids n).num, .string (T.kids n).name, .slice au (T.kids n).len qu] 30)
      have hkl := HKL.out n hnT
      have hsn : 0 < (T.kids n).size := by rw [(T.kids n).size_eq]; omega
      have hfit := HFIT.out
      have HX2 := hid_mk hbox2
      have HL2 := hid_mk (fun s' r' l' o' W (h : IS K _ O2 s' r' l' o' W) => HBL.out _ _ _ _ _ (hback2 s' r' l' o' W h))
      have HK2 := hid_mk hback2
      have HT2 := hid_mk (take_any hq1.drew (by omega))
      have HDF := hid_mk (fun (W : World) (hW : IS K (wr.alloc (.cells #[.int .i64 (T.kids n).kind, .int .i64 (T.kids n).num, .string (T.kids n).name, .slice au (T.kids n).len qu] 30)) O2 (take0 st) T.num 0 0 W) => define_any hW (T.kids n).name (T.kids n).num st.2.length p2 (by have := (HPAR.out n (by omega)).2.2; omega) (name_max (Nd.fine_kid HND.out.fine hnT)) (by rw [take0_len]; show varLen st.1 + 1 ≤ _; omega))
      obtain ⟨d0, d1, d2, d3⟩ := box_cells (hbox2 _ _ _ _ _ hq1)
      have HNX : Hid (parC T X (n + 1) = declC (take0 st) (T.kids n).name (T.kids n).num st.2.length) := by unfold Hid; rw [parC_succ, hst]; rfl
      clear hcn hrn hqu hss hq1 hback2 hbox2 hbl2 hkl hsn hfit hst p1 p2 p3 p4
      cases hM : declC (take0 st) (T.kids n).name (T.kids n).num st.2.length with
      | error pe =>
        have HMP := hid_mk hM
        have HER : Hid (funM K.F T X = .error pe) := by
          have : parC T X (T.len - 1) = .error pe := forN_err (HNX.out.trans hM) (by omega)
          unfold Hid funM
          show CR.bind (parC T X (T.len - 1)) _ = _
          rw [this]; rfl
        clear hM
        go_wp2
        refine wp_region_held_drew (S := (fun W => W.cell? ⟨wr.heap.size, 1, none⟩ = some (.int .i64 (T.kids n).num) ∧ W.cell? ⟨wr.heap.size, 2, none⟩ = some (.string (T.kids n).name))) hmix ?_ (fun hHeld => ?_)
        · exact ⟨d1, d2⟩
        refine wpAnyH_take (i := 0) (v := ?_) rfl (by kernel_rfl) (by kernel_rfl) (by kernel_rfl) (fun _ _ _ h => h) (Or.inl ⟨by rfl, ?_⟩) hHeld ?_
        rotate_left
        · intro W hW
          obtain ⟨x0, x1⟩ := hW
          go_simp
          with_reducible rfl
        simp only [Act.put, List.setIfInBounds_toArray]
        refine wpAnyH_take (i := 1) (v := ?_) rfl (by kernel_rfl) (by kernel_rfl) (by kernel_rfl) (fun _ _ _ h => h) (Or.inl ⟨by rfl, ?_⟩) hHeld ?_
        rotate_left
        · intro W hW
          obtain ⟨x0, x1⟩ := hW
          go_simp
          with_reducible rfl
        simp only [Act.put]
        refine wpAnyH_take (i := 2) (v := ?_) rfl (by kernel_rfl) (by kernel_rfl) (by kernel_rfl) (fun _ _ _ h => h) (Or.inl ⟨by rfl, ?_⟩) hHeld ?_
        rotate_left
        · intro W hW
          obtain ⟨x0, x1⟩ := hW
          go_simp
          with_reducible rfl
        simp only [Act.put]
        refine wpAnyH_take (i := 3) (v := ?_) rfl (by kernel_rfl) (by kernel_rfl) (by kernel_rfl) (fun _ _ _ h => h) (Or.inl ⟨by rfl, ?_⟩) hHeld ?_
        rotate_left
        · intro W hW
          obtain ⟨x0, x1⟩ := hW
          go_simp
          with_reducible rfl
        simp only [Act.put]
        refine wpAnyH_take (i := 4) (v := ?_) rfl (by kernel_rfl) (by kernel_rfl) (by kernel_rfl) (fun _ _ _ h => h) (Or.inl ⟨by rfl, ?_⟩) hHeld ?_
        rotate_left
        · intro W hW
          obtain ⟨x0, x1⟩ := hW
          go_simp
          with_reducible rfl
        simp only [Act.put]
        refine wpAnyH_take (i := 5) (v := ?_) rfl (by kernel_rfl) (by kernel_rfl) (by kernel_rfl) (fun _ _ _ h => h) (Or.inl ⟨by rfl, ?_⟩) hHeld ?_
        rotate_left
        · intro W hW
          obtain ⟨x0, x1⟩ := hW
          go_simp
          with_reducible rfl
        simp only [Act.put]
        refine wpAnyH_ready (rs := [6]) (by kernel_rfl) (by simp) ?_
        refine AllReadyH.cons rfl (fun K' hK => ?_) AllReadyH.nil
        rw [if_pos (by rfl)]
        go_wp2_with (go_at_call 60; refine HT2.out.mono ?_; rintro e w4 ⟨rfl, hs4⟩; obtain ⟨d0, d1, d2, d3⟩ := box_cells (HX2.out _ _ _ _ _ hs4); have HS4 := hid_mk hs4; clear hs4)
        refine hK.out _ _ ⟨d1, d2⟩ (fun hHeld2 => ?_)
        refine wpAnyH_ready (rs := [7]) (by kernel_rfl) (by simp) ?_
        refine AllReadyH.cons rfl (fun K' hK => ?_) AllReadyH.nil
        rw [if_pos (by rfl)]
        go_wp2_with (go_at_call 80; refine (ansE (HDF.out _ HS4.out) HMP.out).mono ?_; rintro e w5 ⟨rfl, hb5⟩)
        refine ⟨rfl, ?_⟩
        rw [ans_err HER.out]
        exact ⟨rfl, (HL2.out _ _ _ _ _ HS4.out).trans hb5⟩
      | ok s1 =>
        have HMP := hid_mk hM
        clear hM
        go_wp2
        refine wp_region_held_drew (S := (fun W => W.cell? ⟨wr.heap.size, 1, none⟩ = some (.int .i64 (T.kids n).num) ∧ W.cell? ⟨wr.heap.size, 2, none⟩ = some (.string (T.kids n).name))) hmix ?_ (fun hHeld => ?_)
        · exact ⟨d1, d2⟩
        refine wpAnyH_take (i := 0) (v := ?_) rfl (by kernel_rfl) (by kernel_rfl) (by kernel_rfl) (fun _ _ _ h => h) (Or.inl ⟨by rfl, ?_⟩) hHeld ?_
        rotate_left
        · intro W hW
          obtain ⟨x0, x1⟩ := hW
          go_simp
          with_reducible rfl
        simp only [Act.put, List.setIfInBounds_toArray]
        refine wpAnyH_take (i := 1) (v := ?_) rfl (by kernel_rfl) (by kernel_rfl) (by kernel_rfl) (fun _ _ _ h => h) (Or.inl ⟨by rfl, ?_⟩) hHeld ?_
        rotate_left
        · intro W hW
          obtain ⟨x0, x1⟩ := hW
          go_simp
          with_reducible rfl
        simp only [Act.put]
        refine wpAnyH_take (i := 2) (v := ?_) rfl (by kernel_rfl) (by kernel_rfl) (by kernel_rfl) (fun _ _ _ h => h) (Or.inl ⟨by rfl, ?_⟩) hHeld ?_
        rotate_left
        · intro W hW
          obtain ⟨x0, x1⟩ := hW
          go_simp
          with_reducible rfl
        simp only [Act.put]
        refine wpAnyH_take (i := 3) (v := ?_) rfl (by kernel_rfl) (by kernel_rfl) (by kernel_rfl) (fun _ _ _ h => h) (Or.inl ⟨by rfl, ?_⟩) hHeld ?_
        rotate_left
        · intro W hW
          obtain ⟨x0, x1⟩ := hW
          go_simp
          with_reducible rfl
        simp only [Act.put]
        refine wpAnyH_take (i := 4) (v := ?_) rfl (by kernel_rfl) (by kernel_rfl) (by kernel_rfl) (fun _ _ _ h => h) (Or.inl ⟨by rfl, ?_⟩) hHeld ?_
        rotate_left
        · intro W hW
          obtain ⟨x0, x1⟩ := hW
          go_simp
          with_reducible rfl
        simp only [Act.put]
        refine wpAnyH_take (i := 5) (v := ?_) rfl (by kernel_rfl) (by kernel_rfl) (by kernel_rfl) (fun _ _ _ h => h) (Or.inl ⟨by rfl, ?_⟩) hHeld ?_
        rotate_left
        · intro W hW
          obtain ⟨x0, x1⟩ := hW
          go_simp
          with_reducible rfl
        simp only [Act.put]
        refine wpAnyH_ready (rs := [6]) (by kernel_rfl) (by simp) ?_
        refine AllReadyH.cons rfl (fun K' hK => ?_) AllReadyH.nil
        rw [if_pos (by rfl)]
        go_wp2_with (go_at_call 60; refine HT2.out.mono ?_; rintro e w4 ⟨rfl, hs4⟩; obtain ⟨d0, d1, d2, d3⟩ := box_cells (HX2.out _ _ _ _ _ hs4); have HS4 := hid_mk hs4; clear hs4)
        refine hK.out _ _ ⟨d1, d2⟩ (fun hHeld2 => ?_)
        refine wpAnyH_ready (rs := [7]) (by kernel_rfl) (by simp) ?_
        refine AllReadyH.cons rfl (fun K' hK => ?_) AllReadyH.nil
        rw [if_pos (by rfl)]
        go_wp2_with (go_at_call 80; refine (ansO (HDF.out _ HS4.out) HMP.out).mono ?_; rintro e w5 ⟨rfl, hs5⟩; obtain ⟨d0, d1, d2, d3⟩ := box_cells (HX2.out _ _ _ _ _ hs5); have HS5 := hid_mk hs5; clear hs5)
        refine hK.out _ _ ⟨d1, d2⟩ (fun hHeld3 => ?_)
        refine wpAnyH_done (by kernel_rfl) ?_ _
        go_wp2
        exact ⟨⟨n + 1, by omega, by go_num, s1, by rw [HNX.out, HMP.out], HK2.out _ _ _ _ _ HS5.out⟩, by simp [intOf]; omega⟩
    · have hmn : m = n := by omega
      subst hmn
      obtain ⟨b0, b1, b2, b3⟩ := box_cells (HBX.out _ _ _ _ _ hss)
      obtain ⟨u, hcn, hrn⟩ := HKID.out m hmT
      obtain ⟨au, qu, hu, hcu, hqu⟩ := row_eq.1 hrn
      subst hu
      have hcn' := hcn _ (HBL.out _ _ _ _ _ hss)
      obtain ⟨c0, c1, c2, c3⟩ := hcn'
      obtain ⟨O2, hq1, hback2, hbox2, hbl2⟩ := hss.boxed (.cells #[.int .i64 (T.kids m).kind, .int .i64 (T.kids m).num, .string (T.kids m).name, .slice au (T.kids m).len qu] 30)
      have hkl := HKL.out m hmT
      have hfit := HFIT.out
      have htop := parC_top hst
      have hnk := HND.out.kid hmT hrn
      have hka : X.length + 1 ≤ st.2.length := by rw [p1]; unfold kidAt; omega
      have HX2 := hid_mk hbox2
      have HL2 := hid_mk (fun s' r' l' o' W (h : IS K _ O2 s' r' l' o' W) => HBL.out _ _ _ _ _ (hback2 s' r' l' o' W h))
      have HK2 := hid_mk hback2
      have hbq := HL2.out _ _ _ _ _ hq1
      have HBO2 := hid_mk hbq
      have HSTS := hid_mk (ists_of HB4.out (fun i _ => ist_every ivar _) K _ O2 st ⟨T.num, 0, 0⟩ 0 _ _ rfl hq1 (HEV.out.later hbq) (hnk.later hbq) (by omega) HBO.out p2 (by omega) (by show 0 + _ ≤ _; omega) (by omega))
      have HLV := hid_mk (fun (s2 : CS) (hne : s2.1 ≠ []) (W : World) (hW : IS K (wr.alloc (.cells #[.int .i64 (T.kids m).kind, .int .i64 (T.kids m).num, .string (T.kids m).name, .slice au (T.kids m).len qu] 30)) O2 s2 T.num 0 0 W) => leaveI_any hW hne)
      have HLE : Hid (∀ s2, (mnT K.F (T.kids m)).sts ⟨T.num, 0, 0⟩ st = .ok s2 → s2.1.length = 1) := by
        intro s2 h
        have := ((mn_len K.F (T.kids m)).sts HBO.out HB4.out ⟨T.num, 0, 0⟩) _ s2 p2 h
        exact this.2.1.trans htop
      have HEN := hid_mk (fun (W : World) (hb : Below K.lo w W) => ien_any (T.kids m) W _ K.lo hnk.fine (by have := hb.size; omega) (hnk.later hb).row)
      have HFM : Hid (funM K.F T X = CR.bind ((mnT K.F (T.kids m)).sts ⟨T.num, 0, 0⟩ st) fun s2 => if T.num ≠ 0 ∧ endsB (T.kids m) = false then .error (9, X.length) else .ok s2.2) := by
        unfold Hid funM
        rw [HM1.out]
        show CR.bind (parC T X m) _ = _
        rw [hst]; rfl
      unfold Nd.val at HSTS HEN
      clear hcn hrn hqu hss hq1 hback2 hbox2 hbl2 hkl hfit hst p1 p2 p3 p4 hnk hbq htop hka
      cases hM : (mnT K.F (T.kids m)).sts ⟨T.num, 0, 0⟩ st with
      | error pe =>
        have HMP := hid_mk hM
        have HER : Hid (funM K.F T X = .error pe) := by unfold Hid; rw [HFM.out, hM]; rfl
        clear hM
        go_wp2_with (first
          | (go_at_call 81; refine (ansE HSTS.out HMP.out).mono ?_; rintro e w4 ⟨rfl, hb4⟩))
        refine ⟨rfl, ?_⟩
        rw [ans_err HER.out]
        exact ⟨rfl, (HBO2.out).trans hb4⟩
      | ok s2 =>
        have HMP := hid_mk hM
        have h1 := HLE.out _ hM
        have HLV := hid_mk (HLV.out s2 (fun e => by rw [e] at h1; cases h1))
        have htl : s2.1.tail = [] := by cases hh : s2.1 with
          | nil => rfl
          | cons l E => rw [hh] at h1; simp at h1; simp [h1]
        rw [htl] at HLV
        have HFN : Hid (funM K.F T X = if T.num ≠ 0 ∧ endsB (T.kids m) = false then .error (9, X.length) else .ok s2.2) := by unfold Hid; rw [HFM.out, hM]; rfl
        clear hM h1 htl
        by_cases h0 : T.num = 0
        · have HOK : Hid (funM K.F T X = .ok s2.2) := by unfold Hid; rw [HFN.out, if_neg (fun h => h.1 h0)]
          have hne : (T.num != 0) = false := by simp [h0]
          clear h0 HFN
          go_wp2_with (first
            | (go_at_call 81; refine (ansO HSTS.out HMP.out).mono ?_; rintro e w4 ⟨rfl, hs4⟩; obtain ⟨b0, b1, b2, b3⟩ := box_cells (HBX.out _ _ _ _ _ (HK2.out _ _ _ _ _ hs4)); obtain ⟨d0, d1, d2, d3⟩ := box_cells (HX2.out _ _ _ _ _ hs4); have HS4 := hid_mk hs4; clear hs4)
            | (go_at_call 82; refine (HLV.out _ HS4.out).mono ?_; rintro e w5 ⟨rfl, hs5⟩; obtain ⟨b0, b1, b2, b3⟩ := box_cells (HBX.out _ _ _ _ _ (HK2.out _ _ _ _ _ hs5)); obtain ⟨d0, d1, d2, d3⟩ := box_cells (HX2.out _ _ _ _ _ hs5); have HS5 := hid_mk hs5; clear hs5))
          go_end0
          rw [ans_ok HOK.out]
          exact ⟨rfl, HB1.out _ _ _ _ _ (HK2.out _ _ _ _ _ HS5.out)⟩
        · have hne : (T.num != 0) = true := by simp [h0]
          cases he : endsB (T.kids m) with
          | true =>
            have HOK : Hid (funM K.F T X = .ok s2.2) := by unfold Hid; rw [HFN.out, if_neg (fun h => by rw [he] at h; cases h.2)]
            rw [he] at HEN
            clear h0 HFN he
            go_wp2_with (first
              | (go_at_call 81; refine (ansO HSTS.out HMP.out).mono ?_; rintro e w4 ⟨rfl, hs4⟩; obtain ⟨b0, b1, b2, b3⟩ := box_cells (HBX.out _ _ _ _ _ (HK2.out _ _ _ _ _ hs4)); obtain ⟨d0, d1, d2, d3⟩ := box_cells (HX2.out _ _ _ _ _ hs4); have HS4 := hid_mk hs4; clear hs4)
              | (go_at_call 82; refine (HLV.out _ HS4.out).mono ?_; rintro e w5 ⟨rfl, hs5⟩; obtain ⟨b0, b1, b2, b3⟩ := box_cells (HBX.out _ _ _ _ _ (HK2.out _ _ _ _ _ hs5)); obtain ⟨d0, d1, d2, d3⟩ := box_cells (HX2.out _ _ _ _ _ hs5); have HS5 := hid_mk hs5; clear hs5)
              | (go_at_call 83; refine (HEN.out _ (HL2.out _ _ _ _ _ HS5.out)).mono ?_; rintro e w6 ⟨rfl, hb6⟩))
            go_end0
            rw [ans_ok HOK.out]
            exact ⟨rfl, (HB1.out _ _ _ _ _ (HK2.out _ _ _ _ _ HS5.out)).calm hb6⟩
          | false =>
            have HER : Hid (funM K.F T X = .error (9, X.length)) := by unfold Hid; rw [HFN.out, if_pos ⟨h0, he⟩]
            rw [he] at HEN
            clear h0 HFN he
            go_wp2_with (first
              | (go_at_call 81; refine (ansO HSTS.out HMP.out).mono ?_; rintro e w4 ⟨rfl, hs4⟩; obtain ⟨b0, b1, b2, b3⟩ := box_cells (HBX.out _ _ _ _ _ (HK2.out _ _ _ _ _ hs4)); obtain ⟨d0, d1, d2, d3⟩ := box_cells (HX2.out _ _ _ _ _ hs4); have HS4 := hid_mk hs4; clear hs4)
              | (go_at_call 82; refine (HLV.out _ HS4.out).mono ?_; rintro e w5 ⟨rfl, hs5⟩; obtain ⟨b0, b1, b2, b3⟩ := box_cells (HBX.out _ _ _ _ _ (HK2.out _ _ _ _ _ hs5)); obtain ⟨d0, d1, d2, d3⟩ := box_cells (HX2.out _ _ _ _ _ hs5); have HS5 := hid_mk hs5; clear hs5)
              | (go_at_call 83; refine (HEN.out _ (HL2.out _ _ _ _ _ HS5.out)).mono ?_; rintro e w6 ⟨rfl, hb6⟩))
            refine ⟨rfl, ?_⟩
            rw [ans_err HER.out]
            exact ⟨rfl, (HL2.out _ _ _ _ _ HS5.out).trans (hb6.mono (by have := (HL2.out _ _ _ _ _ HS5.out).size; omega))⟩
end Go.Proofs.YtbjianmjdadehaaGreatDoor
