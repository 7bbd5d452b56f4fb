/- The program's hasAtMost: a tree has at most so many nodes. -/
import Derived.Test.YtjgbjahcnnjfpaaDoorMcC
import Derived.Test.YtjgbjahcnnjfpaaDoorMcA
import Derived.RangeFuncBox
set_option linter.unusedVariables false
namespace Go.Proofs.YtjgbjahcnnjfpaaDoor
open Go.RowKit Go.Shelf
attribute [local go_sem] Oper.semAt_some

theorem keeps_below {A C : World} (h : Below A.heap.size A C) : KeepsOthers A C := ⟨h.size, fun k o ho _ => (h.block k (Array.getElem?_eq_some_iff.1 ho).1).trans ho⟩

def mostB (T : Nd) (m : Int) : Bool := decide ((T.size : Int) ≤ m)
theorem most_bad {T : Nd} {m : Int} {A B : List (Nd × Nat)} {p : Nd × Nat} (h : A ++ p :: B = T.pre 0) (hb : m < ((1 + lens A + p.1.len : Nat) : Int)) : mostB T m = false := by
  have hs := lens_pre T 0
  rw [← h, lens_app] at hs
  have : lens (p :: B) = p.1.len + lens B := by simp [lens]
  unfold mostB
  rw [decide_eq_false_iff_not]
  omega
theorem most_good {T : Nd} {m : Int} (h : ((1 + lens (T.pre 0) : Nat) : Int) ≤ m) : mostB T m = true := by
  have hs := lens_pre T 0
  unfold mostB
  rw [decide_eq_true_eq]
  omega

structure MoI (w : World) (m : Int) (pre : List Ent) (W : World) : Prop where
  below : Below w.heap.size w W
  mst : Boxed W (w.heap.size + 1) 3 (.int .i64 m)
  res : Boxed W (w.heap.size + 1 + 1) 4 (.bool false)
  cnt : Boxed W (w.heap.size + 1 + 1 + 1) 3 (.int .i64 ((1 + lens (pre.map key) : Nat) : Int))
  few : ((1 + lens (pre.map key) : Nat) : Int) ≤ m
  size : w.heap.size + 4 ≤ W.heap.size
structure MoX (w : World) (T : Nd) (m : Int) (c : Code) (W : World) : Prop where
  ret : c = .ret
  below : Below w.heap.size w W
  res : Boxed W (w.heap.size + 1 + 1) 4 (.bool false)
  bad : mostB T m = false
  size : w.heap.size + 4 ≤ W.heap.size

set_option maxHeartbeats 4000000 in
set_option maxRecDepth 100000 in
theorem most_any (T : Nd) (m : Int) (w : World) (u : Value) (hi : Nat) (hf : T.Fine) (hhi : hi ≤ w.heap.size) (hr : Row 0 hi w T u) (hc : T.cost ≤ 1048576) (hm0 : 1 ≤ m) (hm1 : m ≤ 1000000) :
    Calls Tryd.prog 44 #[T.val u, .int .i64 m] w fun e w' => e = .returned (.bool (mostB T m)) ∧ Below w.heap.size w w' := by
  obtain ⟨au, cu, hu, _⟩ := row_eq.1 hr
  subst hu
  refine (callsIn_wide (n := 3)).1 ?_
  refine callsIn_of_wp_marks Tryd.func44 rfl trivial ?_ rfl
  unfold Nd.val
  simp only [Tryd.ntmps44, List.size_toArray, List.length_cons, List.length_nil, Nat.reduceAdd, Nat.reduceSub, Array.replicate_succ, Array.replicate_zero, List.push_toArray, List.append_toArray, List.nil_append, List.cons_append]
  gi_wp2_with ((refine ⟨trivial, ?_⟩; gi_at_call 46; refine (callsIn_wide.2 (nodes_any _ _ _ _ _ _ _)).mono ?_; rintro e w' ⟨rfl, rfl⟩))
  obtain ⟨V, hV⟩ : ∃ V, (((((((w.alloc (.cells #[.int .i64 T.kind, .int .i64 T.num, .string T.name, .slice au T.len cu] 37)).alloc (.cells #[.int .i64 m] 3)).alloc (.cells #[.bool false] 4)).alloc (.cells #[.int .i64 1] 3)).alloc (.cells #[.int .i64 T.kind, .int .i64 T.num, .string T.name, .slice au T.len cu] 37)).alloc (.cells #[.int .i64 T.kind, .int .i64 T.num, .string T.name, .slice au T.len cu] 37)).alloc (.cells #[.func (.func 59) #[] #[]] 76)) = V := ⟨_, rfl⟩
  have hsz : V.heap.size = w.heap.size + 7 := by rw [← hV]; simp
  have hb0 : Below w.heap.size w V := by
    rw [← hV]
    exact (((((((Below.refl _ w).alloc (Nat.le_refl _) _).alloc (by simp) _).alloc (by simp; omega) _).alloc (by simp; omega) _).alloc (by simp; omega) _).alloc (by simp; omega) _).alloc (by simp; omega) _
  have c0 : V.cell? ⟨w.heap.size + 1 + 1 + 1 + 1 + 1, 0, none⟩ = some (.int .i64 T.kind) := by rw [← hV]; simp [go_sem]
  have c1 : V.cell? ⟨w.heap.size + 1 + 1 + 1 + 1 + 1, 1, none⟩ = some (.int .i64 T.num) := by rw [← hV]; simp [go_sem]
  have c2 : V.cell? ⟨w.heap.size + 1 + 1 + 1 + 1 + 1, 2, none⟩ = some (.string T.name) := by rw [← hV]; simp [go_sem]
  have c3 : V.cell? ⟨w.heap.size + 1 + 1 + 1 + 1 + 1, 3, none⟩ = some (.slice au T.len cu) := by rw [← hV]; simp [go_sem]
  have c4 : V.cell? ⟨w.heap.size + 1 + 1 + 1 + 1 + 1 + 1, 0, none⟩ = some (.func (.func 59) #[] #[]) := by rw [← hV]; simp [go_sem]
  have b1 := Boxed.new (w.alloc (.cells #[.int .i64 T.kind, .int .i64 T.num, .string T.name, .slice au T.len cu] 37)) 3 (.int .i64 m)
  have b2 := Boxed.new ((w.alloc (.cells #[.int .i64 T.kind, .int .i64 T.num, .string T.name, .slice au T.len cu] 37)).alloc (.cells #[.int .i64 m] 3)) 4 (.bool false)
  have b3 := Boxed.new (((w.alloc (.cells #[.int .i64 T.kind, .int .i64 T.num, .string T.name, .slice au T.len cu] 37)).alloc (.cells #[.int .i64 m] 3)).alloc (.cells #[.bool false] 4)) 3 (.int .i64 1)
  simp only [World.size_alloc] at b1 b2 b3
  have hI0 : MoI w m [] V := by
    refine ⟨hb0, ?_, ?_, ?_, by simp [lens]; omega, by omega⟩
    · rw [← hV]; exact ((((b1.alloc _).alloc _).alloc _).alloc _).alloc _
    · rw [← hV]; exact (((b2.alloc _).alloc _).alloc _).alloc _
    · rw [← hV]; exact ((b3.alloc _).alloc _).alloc _
  have hIU : Under V.heap.size (MoI w m) := fun pre A C h hb => by
    have hz := h.size
    exact ⟨h.below.trans (hb.mono (by omega)), (hb.block _ (by omega)).trans h.mst, (hb.block _ (by omega)).trans h.res, (hb.block _ (by omega)).trans h.cnt, h.few, by have := hb.size; omega⟩
  have hXU : ∀ c, Under V.heap.size (fun (_ : List Ent) W => MoX w T m c W) := fun c pre A C h hb => by
    have hz := h.size
    exact ⟨h.ret, h.below.trans (hb.mono (by omega)), (hb.block _ (by omega)).trans h.res, h.bad, by have := hb.size; omega⟩
  rw [hV]
  clear hV b1 b2 b3
  have hn := T.fine_len hf
  have hr' := row_wide hr (Nat.le_refl _) hhi
  refine wpIn_rangeFunc_frame (α := Ent) (encs := wenc) (S := WAll T) (Sp := fun _ => True) (Came := WCame T w.heap.size w) (mine := fun k => k = w.heap.size + 1 + 1 + 1) rfl (by omega) (gf := 69) (lb := #[.pointer (some ⟨w.heap.size + 1 + 1 + 1 + 1 + 1, 0, none⟩), .pointer (some ⟨w.heap.size + 1 + 1 + 1 + 1 + 1 + 1, 0, none⟩)]) rfl trivial (enters_of Tryd.func69 (by kernel_rfl) rfl)
    (fun l J Jx W hWs hbW hJ hJx hJz hY h0 => by
      have hcell : ∀ b o, b < V.heap.size → W.cell? ⟨b, o, none⟩ = V.cell? ⟨b, o, none⟩ := fun b o hb => hbW.cell (p := ⟨b, o, none⟩) hb
      exact walk_in 2 (by omega) T (.slice au T.len cu) w.heap.size V.heap.size (w.heap.size + 1 + 1 + 1 + 1 + 1) (w.heap.size + 1 + 1 + 1 + 1 + 1 + 1) l (fun k => k = w.heap.size + 1 + 1 + 1) J Jx w W hf hc hWs (by omega) (by omega) (by omega) (fun k hk => by omega) (fun k hk => ((hbW.block k (by omega)).trans (hb0.block k hk))) hr' hJ hJz hY h0
        ((hcell _ _ (by omega)).trans c0) ((hcell _ _ (by omega)).trans c1) ((hcell _ _ (by omega)).trans c2) ((hcell _ _ (by omega)).trans c3) ((hcell _ _ (by omega)).trans c4))
    (fun _ => rfl) (MoI w m) (fun c _ W => MoX w T m c W) hIU hXU hI0
    (fun x W => { tmps := #[.agg #[.int .i64 T.kind, .int .i64 T.num, .string T.name, .slice au T.len cu], .int .i64 m, .pointer (some ⟨w.heap.size, 0, none⟩), .pointer (some ⟨w.heap.size + 1, 0, none⟩), .pointer (some ⟨w.heap.size + 1 + 1, 0, none⟩), .pointer (some ⟨w.heap.size + 1 + 1 + 1, 0, none⟩), .pointer (some ⟨W.heap.size, 0, none⟩), .agg #[.int .i64 T.kind, .int .i64 T.num, .string T.name, .slice au T.len cu], .func (.func 69) #[] #[.pointer (some ⟨w.heap.size + 1 + 1 + 1 + 1 + 1, 0, none⟩), .pointer (some ⟨w.heap.size + 1 + 1 + 1 + 1 + 1 + 1, 0, none⟩)], x.D.val x.v, .int .i64 (x.d : Int), undef, undef, undef, undef, undef, undef, undef, undef], defers := [] })
    (fun x W => W.alloc (.cells #[.int .i64 x.D.kind, .int .i64 x.D.num, .string x.D.name, x.v] 37)) (fun x W => (Below.refl _ _).alloc (Nat.le_refl _) _) ?assign ?body ?done ?stop
  case assign =>
    rintro l pre ⟨D, d, v⟩ W K ⟨_, hxr, _⟩ hK
    obtain ⟨a, c, hv, _⟩ := row_eq.1 hxr
    have hv : v = .slice a D.len c := hv
    subst hv
    simp only [wenc, Nd.val]
    gi_wp2
    exact hK
  case body =>
    rintro l pre ⟨D, d, v⟩ W1 W3 r hi' hz ⟨⟨rest, hcame⟩, hxr, hxf⟩ hW3 hi3
    obtain ⟨av, cv, hv, _⟩ := row_eq.1 hxr
    have hv : v = .slice av D.len cv := hv
    subst hv
    have hcame : pre.map key ++ (D, d) :: rest = T.pre 0 := hcame
    have hlen : D.len ≤ 1048576 + 1 := by
      have h1 := lens_pre T 0
      rw [← hcame, lens_app] at h1
      have h2 : lens ((D, d) :: rest) = D.len + lens rest := by simp [lens]
      have := T.size_cost
      omega
    have hfew := hi'.few
    have q := hi3.cnt.cell
    have qf := hi3.cnt.frozen
    have qm := hi3.mst.cell
    have qr := hi3.res.cell
    have qrf := hi3.res.frozen
    have hbz : W3.heap.size = W1.heap.size + 1 := by rw [hW3]; simp
    have hbx : W3.heap[W1.heap.size]? = some (.cells #[.int .i64 D.kind, .int .i64 D.num, .string D.name, .slice av D.len cv] 37) := by
      rw [hW3, World.putObj_heap_other (by omega)]; exact World.alloc_heap_new W1 _
    have x0 : W3.cell? ⟨W1.heap.size, 0, none⟩ = some (.int .i64 D.kind) := (cell_of_row _ _ 0 _ _ (0, 0) hbx).trans rfl
    have x1 : W3.cell? ⟨W1.heap.size, 1, none⟩ = some (.int .i64 D.num) := (cell_of_row _ _ 1 _ _ (0, 0) hbx).trans rfl
    have x2 : W3.cell? ⟨W1.heap.size, 2, none⟩ = some (.string D.name) := (cell_of_row _ _ 2 _ _ (0, 0) hbx).trans rfl
    have x3 : W3.cell? ⟨W1.heap.size, 3, none⟩ = some (.slice av D.len cv) := (cell_of_row _ _ 3 _ _ (0, 0) hbx).trans rfl
    have hz1 := hi'.size
    have d1 : ¬ W1.heap.size = w.heap.size + 1 + 1 + 1 := by omega
    have d2 : ¬ w.heap.size + 1 + 1 + 1 = W1.heap.size := by omega
    have HBAD : Hid (m < ((1 + lens (pre.map key) + D.len : Nat) : Int) → mostB T m = false) := fun h => most_bad hcame h
    have HI := hid_mk hi3
    obtain ⟨ls, hls⟩ : ∃ ls, lens (pre.map key) = ls := ⟨_, rfl⟩
    have HLS := hid_mk hls
    rw [hls] at q hfew HBAD
    clear hls
    have HF3 : ∀ u : Value, Hid (KeptF (fun k => k = w.heap.size + 1 + 1 + 1) W3 (W3.setCell ⟨w.heap.size + 1 + 1 + 1, 0, none⟩ u)) := fun u => ⟨by simp [World.setCell], fun k hk hm => Below.heap_setCell _ _ _ _ hm⟩
    have hzi := HI.out.size
    clear hcame hxr hxf hi' hi3 hW3 hI0 hIU hXU c0 c1 c2 c3 c4 hbx
    have hcst : ((1 + ls : Nat) : Int) + (D.len : Int) = ((1 + ls + D.len : Nat) : Int) := by omega
    have HCST := hid_mk hcst
    clear hcst
    by_cases hbig : m < ((1 + ls : Nat) : Int) + (D.len : Int)
    · have HB2 := hid_mk (HBAD.out (by rw [← HCST.out]; exact hbig))
      gi_wp2_with (refine ⟨trivial, ?_⟩)
      refine ⟨(KeepsOthers.setCell _ _ _).trans (KeepsOthers.setCell _ _ _), rfl, (HI.out.below.setCell (p := ⟨w.heap.size + 1 + 1 + 1, 0, none⟩) (by show w.heap.size ≤ w.heap.size + 1 + 1 + 1; omega) _).setCell (p := ⟨w.heap.size + 1 + 1, 0, none⟩) (by show w.heap.size ≤ w.heap.size + 1 + 1; omega) _, ?_, HB2.out, ?_⟩
      · have RR : ∀ u : Value, Boxed (W3.setCell ⟨w.heap.size + 1 + 1 + 1, 0, none⟩ u) (w.heap.size + 1 + 1) 4 (.bool false) := fun u => (Below.heap_setCell _ _ _ _ (by show w.heap.size + 1 + 1 ≠ w.heap.size + 1 + 1 + 1; omega)).trans HI.out.res
        exact (RR _).set (.bool false)
      · simp [World.setCell]; omega
    · gi_wp2_with (refine ⟨trivial, ?_⟩)
      refine ⟨KeepsOthers.setCell _ _ _, (HF3 _).out, HI.out.below.setCell (p := ⟨w.heap.size + 1 + 1 + 1, 0, none⟩) (by show w.heap.size ≤ w.heap.size + 1 + 1 + 1; omega) _, (Below.heap_setCell _ _ _ _ (by show w.heap.size + 1 ≠ w.heap.size + 1 + 1 + 1; omega)).trans HI.out.mst, (Below.heap_setCell _ _ _ _ (by show w.heap.size + 1 + 1 ≠ w.heap.size + 1 + 1 + 1; omega)).trans HI.out.res, ?_, ?_, by simp [World.setCell]; omega⟩
      · rw [show lens ((pre ++ [(⟨D, d, .slice av D.len cv⟩ : Ent)]).map key) = ls + D.len by rw [List.map_append, lens_app, HLS.out]; simp [lens, key]]
        have e : (1 : Int) + (ls : Int) + (D.len : Int) = ((1 + (ls + D.len) : Nat) : Int) := by omega
        rw [← e]; exact HI.out.cnt.set _
      · rw [show lens ((pre ++ [(⟨D, d, .slice av D.len cv⟩ : Ent)]).map key) = ls + D.len by rw [List.map_append, lens_app, HLS.out]; simp [lens, key]]
        omega
  case done =>
    rintro D xs W hD hS hi' hK
    have HG : Hid (mostB T m = true) := most_good (by have := hi'.few; rw [hS] at this; exact this)
    have qr := hi'.res.cell
    have qrf := hi'.res.frozen
    have HI := hid_mk hi'
    have HK := hid_mk hK
    clear hS hi' hK hI0 hIU hXU c0 c1 c2 c3 c4
    gi_wp2
    have h := HI.out
    have r0 := h.res.set (.bool true)
    have hK3 : (W.setCell ⟨w.heap.size + 1 + 1, 0, none⟩ (.bool true)).heap[D]? = some (.deferred (some [])) := (Below.heap_setCell _ _ _ _ (by show D ≠ w.heap.size + 1 + 1; omega)).trans HK.out
    have hb3 := h.below.setCell (p := ⟨w.heap.size + 1 + 1, 0, none⟩) (by show w.heap.size ≤ w.heap.size + 1 + 1; omega) (.bool true)
    revert r0 hK3 hb3
    generalize W.setCell ⟨w.heap.size + 1 + 1, 0, none⟩ (.bool true) = X
    intro r0 hK3 hb3
    refine ⟨by simp, .inl ⟨_, _, rfl, run_takeDeferred hK3, ?_⟩⟩
    have gp := grownBy_putObj' X D (.deferred none)
    have p0 := (r0.kept gp (fun e => by have := Option.some.inj e; omega)).cell
    refine ⟨.bool true, by simp [results, Tryd.results44, go_sem, p0], ret_bool HG.out.symm, ?_⟩
    exact hb3.grown gp (by have := hb3.size; omega) (fun k e => by have := Option.some.inj e; omega)
  case stop =>
    rintro D c pre W hD _ hx hK
    obtain rfl := hx.ret
    have hb3 := hx.below
    have r0 := hx.res
    have HO := hid_mk hx.bad
    clear hx hI0 hIU hXU c0 c1 c2 c3 c4
    gi_wp2
    refine ⟨by simp, .inl ⟨_, _, rfl, run_takeDeferred hK, ?_⟩⟩
    have gp := grownBy_putObj' W D (.deferred none)
    have p0 := (r0.kept gp (fun e => by have := Option.some.inj e; omega)).cell
    refine ⟨.bool false, by simp [results, Tryd.results44, go_sem, p0], ret_bool HO.out.symm, ?_⟩
    exact hb3.grown gp (by have := hb3.size; omega) (fun k e => by have := Option.some.inj e; omega)
end Go.Proofs.YtjgbjahcnnjfpaaDoor
namespace Go.Proofs.YtjgbjahcnnjfpaaDoor
open Go.RowKit Go.Shelf
attribute [local go_sem] Oper.semAt_some

structure TrI (w w2 : World) (pre : List Ent) (W : World) : Prop where
  below : Below w.heap.size w W
  res : Boxed W (w.heap.size + 1) 4 (.bool false)
  ok : ∀ x ∈ pre, fitB x.D = true
  size : w2.heap.size + 3 ≤ W.heap.size
structure TrX (w w2 : World) (T : Nd) (c : Code) (W : World) : Prop where
  ret : c = .ret
  below : Below w.heap.size w W
  res : Boxed W (w.heap.size + 1) 4 (.bool false)
  bad : implB T = false
  size : w2.heap.size + 3 ≤ W.heap.size

theorem impl_big {T : Nd} (h : mostB T 600 = false) : implB T = false := by
  unfold mostB at h
  have h : ¬ ((T.size : Int) ≤ 600) := by simpa using h
  have h6 : ¬ T.size ≤ 600 := by omega
  unfold implB
  simp [h6]
theorem impl_unfit {T : Nd} {A B : List (Nd × Nat)} {p : Nd × Nat} (h : A ++ p :: B = T.pre 0) (hb : fitB p.1 = false) : implB T = false := impl_bad h (.inr hb)
theorem impl_all {T : Nd} (hT : T.kind = 1) (h6 : mostB T 600 = true) (hA : ∀ q ∈ T.pre 0, fitB q.1 = true) : implB T = true := by
  unfold mostB at h6
  have h6 : (T.size : Int) ≤ 600 := by simpa using h6
  refine impl_good hT ?_ hA
  have := lens_pre T 0
  omega

set_option maxHeartbeats 4000000 in
set_option maxRecDepth 100000 in
theorem impl_tree (T : Nd) (w : World) (u : Value) (hf : T.Fine) (hr : Row 0 w.heap.size w T u) (hc : T.cost ≤ 1048576) (ht : Tabs w) :
    Calls Tryd.prog 48 #[T.val u] w fun e w' => e = .returned (.bool (implB T)) ∧ Below w.heap.size w w' := by
  obtain ⟨au, cu, hu, _⟩ := row_eq.1 hr
  subst hu
  have hlt := ht.lt
  by_cases hk : T.kind = 1
  case neg =>
    have HO : Hid (implB T = false) := by unfold Hid implB; simp [hk]
    have hkb : (T.kind != 1) = true := by rw [bne_iff_ne]; exact hk
    clear hk hr ht
    unfold Nd.val
    generalize T.kind = tk at *
    go_enter Tryd.func48, Tryd.ntmps48
    go_wp2
    refine bodyPost_ret (v := .bool false) (by simp [results, Tryd.results48, go_sem]) rfl ⟨ret_bool HO.out.symm, ?_⟩
    exact ((Below.refl _ _).alloc (Nat.le_refl _) _).alloc (by simp) _
  have hkb : (T.kind != 1) = false := by simp [hk]
  have HKD := hid_mk hk
  clear hk
  have HM : Hid (∀ (W : World), Below w.heap.size w W → Calls Tryd.prog 44 #[T.val (.slice au T.len cu), .int .i64 600] W fun e w' => e = .returned (.bool (mostB T 600)) ∧ Below W.heap.size W w') :=
    fun W hb => most_any T 600 W _ w.heap.size hf hb.size (row_below hb (Nat.le_refl _) hr) hc (by omega) (by omega)
  unfold Nd.val at HM
  obtain ⟨W0, hW0⟩ : ∃ W0, (w.alloc (.cells #[.int .i64 T.kind, .int .i64 T.num, .string T.name, .slice au T.len cu] 37)).alloc (.cells #[.bool false] 4) = W0 := ⟨_, rfl⟩
  have HZ0 : Hid (W0.heap.size = w.heap.size + 2) := by unfold Hid; rw [← hW0]; simp
  have HB0 : Hid (Below w.heap.size w W0) := by rw [← hW0]; exact ((Below.refl _ _).alloc (Nat.le_refl _) _).alloc (by simp) _
  have HC0 : Hid (W0.cell? ⟨w.heap.size, 0, none⟩ = some (.int .i64 T.kind) ∧ W0.cell? ⟨w.heap.size, 1, none⟩ = some (.int .i64 T.num) ∧ W0.cell? ⟨w.heap.size, 2, none⟩ = some (.string T.name) ∧ W0.cell? ⟨w.heap.size, 3, none⟩ = some (.slice au T.len cu) ∧ Boxed W0 (w.heap.size + 1) 4 (.bool false)) := by
    have b1 := Boxed.new (w.alloc (.cells #[.int .i64 T.kind, .int .i64 T.num, .string T.name, .slice au T.len cu] 37)) 4 (.bool false)
    simp only [World.size_alloc] at b1
    unfold Hid
    rw [← hW0]
    exact ⟨by simp [go_sem], by simp [go_sem], by simp [go_sem], by simp [go_sem], b1⟩
  have HW0 := hid_mk hW0
  clear hW0
  cases hmb : mostB T 600
  case false =>
    have HO := hid_mk (impl_big hmb)
    unfold Nd.val
    clear hr ht
    go_enter Tryd.func48, Tryd.ntmps48
    go_wp2_with (go_at_call 44; rw [HW0.out]; refine (HM.out _ HB0.out).mono ?_; rw [hmb]; rintro e w2 ⟨rfl, hb2⟩; obtain ⟨q0, q1, q2, q3, qb⟩ := HC0.out; have R2 := hid_mk (show Boxed w2 (w.heap.size + 1) 4 (.bool false) from (hb2.block _ (by have := HZ0.out; omega)).trans qb); have HB2 := hid_mk (HB0.out.trans (hb2.mono (by have := HZ0.out; omega))); have r1 := R2.out.cell; have r2 := R2.out.frozen; clear hb2 qb)
    refine bodyPost_ret (v := .bool false) (by have := (R2.out.set (.bool false)).cell; simp [results, Tryd.results48, go_sem, this]) rfl ⟨ret_bool HO.out.symm, ?_⟩
    exact HB2.out.setCell (p := ⟨w.heap.size + 1, 0, none⟩) (by show w.heap.size ≤ w.heap.size + 1; omega) _
  have HMB := hid_mk hmb
  refine (callsIn_wide (n := 3)).1 ?_
  refine callsIn_of_wp_marks Tryd.func48 rfl trivial ?_ rfl
  unfold Nd.val
  simp only [Tryd.ntmps48, List.size_toArray, List.length_cons, List.length_nil, Nat.reduceAdd, Nat.reduceSub, Array.replicate_succ, Array.replicate_zero, List.push_toArray, List.append_toArray, List.nil_append, List.cons_append]
  gi_wp2_with (refine ⟨trivial, ?_⟩; first
    | (gi_at_call 44; rw [HW0.out]; refine (callsIn_wide.2 (HM.out _ HB0.out)).mono ?_; rw [hmb]; rintro e w2 ⟨rfl, hb2⟩; obtain ⟨q0, q1, q2, q3, qb⟩ := HC0.out; rw [← hb2.cell (p := ⟨w.heap.size, _, none⟩) (show w.heap.size < W0.heap.size by have := HZ0.out; omega)] at q0 q1 q2 q3; have R2 := hid_mk (show Boxed w2 (w.heap.size + 1) 4 (.bool false) from (hb2.block _ (by have := HZ0.out; omega)).trans qb); have HB2 := hid_mk (HB0.out.trans (hb2.mono (by have := HZ0.out; omega))); have HZ2 := hid_mk (show w.heap.size + 2 ≤ w2.heap.size by have := hb2.size; have := HZ0.out; omega); clear hb2 qb)
    | (gi_at_call 46; refine (callsIn_wide.2 (nodes_any _ _ _ _ _ _ _)).mono ?_; rintro e w' ⟨rfl, rfl⟩))
  obtain ⟨V, hV⟩ : ∃ V, ((w2.alloc (.cells #[.int .i64 T.kind, .int .i64 T.num, .string T.name, .slice au T.len cu] 37)).alloc (.cells #[.int .i64 T.kind, .int .i64 T.num, .string T.name, .slice au T.len cu] 37)).alloc (.cells #[.func (.func 59) #[] #[]] 76) = V := ⟨_, rfl⟩
  have hsz : V.heap.size = w2.heap.size + 3 := by rw [← hV]; simp
  have hz2 := HZ2.out
  have hb2V : Below w2.heap.size w2 V := by
    rw [← hV]
    exact (((Below.refl _ w2).alloc (Nat.le_refl _) _).alloc (by simp) _).alloc (by simp; omega) _
  have hb0 : Below w.heap.size w V := HB2.out.trans (hb2V.mono (by omega))
  have c0 : V.cell? ⟨w2.heap.size + 1, 0, none⟩ = some (.int .i64 T.kind) := by rw [← hV]; simp [go_sem]
  have c1 : V.cell? ⟨w2.heap.size + 1, 1, none⟩ = some (.int .i64 T.num) := by rw [← hV]; simp [go_sem]
  have c2 : V.cell? ⟨w2.heap.size + 1, 2, none⟩ = some (.string T.name) := by rw [← hV]; simp [go_sem]
  have c3 : V.cell? ⟨w2.heap.size + 1, 3, none⟩ = some (.slice au T.len cu) := by rw [← hV]; simp [go_sem]
  have c4 : V.cell? ⟨w2.heap.size + 1 + 1, 0, none⟩ = some (.func (.func 59) #[] #[]) := by rw [← hV]; simp [go_sem]
  have hI0 : TrI w w2 [] V := ⟨hb0, (hb2V.block _ (by omega)).trans R2.out, (fun x hx => by cases hx), by omega⟩
  have hIU : Under V.heap.size (TrI w w2) := fun pre A C h hb => by
    have hz := h.size
    exact ⟨h.below.trans (hb.mono (by omega)), (hb.block _ (by omega)).trans h.res, h.ok, by have := hb.size; omega⟩
  have hXU : ∀ c, Under V.heap.size (fun (_ : List Ent) W => TrX w w2 T c W) := fun c pre A C h hb => by
    have hz := h.size
    exact ⟨h.ret, h.below.trans (hb.mono (by omega)), (hb.block _ (by omega)).trans h.res, h.bad, by have := hb.size; omega⟩
  rw [hV]
  clear hV q0 q1 q2 q3
  have HT := hid_mk ht
  have hn := T.fine_len hf
  refine wpIn_rangeFunc_frame (α := Ent) (encs := wenc) (S := WAll T) (Sp := fun _ => True) (Came := WCame T w.heap.size w) (mine := fun k => False) rfl (by omega) (gf := 69) (lb := #[.pointer (some ⟨w2.heap.size + 1, 0, none⟩), .pointer (some ⟨w2.heap.size + 1 + 1, 0, none⟩)]) rfl trivial (enters_of Tryd.func69 (by kernel_rfl) rfl)
    (fun l J Jx W hWs hbW hJ hJx hJz hY h0 => by
      have hcell : ∀ b o, b < V.heap.size → W.cell? ⟨b, o, none⟩ = V.cell? ⟨b, o, none⟩ := fun b o hb => hbW.cell (p := ⟨b, o, none⟩) hb
      exact walk_in 2 (by omega) T (.slice au T.len cu) w.heap.size V.heap.size (w2.heap.size + 1) (w2.heap.size + 1 + 1) l (fun k => False) J Jx w W hf hc hWs (by omega) (by omega) (by omega) (fun k hk => hk.elim) (fun k hk => ((hbW.block k (by omega)).trans (hb0.block k hk))) hr hJ hJz hY h0
        ((hcell _ _ (by omega)).trans c0) ((hcell _ _ (by omega)).trans c1) ((hcell _ _ (by omega)).trans c2) ((hcell _ _ (by omega)).trans c3) ((hcell _ _ (by omega)).trans c4))
    (fun _ => rfl) (TrI w w2) (fun c _ W => TrX w w2 T c W) hIU hXU hI0
    (fun x W => { tmps := #[.agg #[.int .i64 T.kind, .int .i64 T.num, .string T.name, .slice au T.len cu], .pointer (some ⟨w.heap.size, 0, none⟩), .pointer (some ⟨w.heap.size + 1, 0, none⟩), .pointer (some ⟨W.heap.size, 0, none⟩), .pointer (some ⟨w.heap.size, 0, none⟩), .int .i64 T.kind, .bool false, .bool false, .agg #[.int .i64 T.kind, .int .i64 T.num, .string T.name, .slice au T.len cu], .bool true, .bool false, .bool false, .agg #[.int .i64 T.kind, .int .i64 T.num, .string T.name, .slice au T.len cu], .func (.func 69) #[] #[.pointer (some ⟨w2.heap.size + 1, 0, none⟩), .pointer (some ⟨w2.heap.size + 1 + 1, 0, none⟩)], x.D.val x.v, .int .i64 (x.d : Int), undef, undef, undef], defers := [] })
    (fun x W => W.alloc (.cells #[.int .i64 x.D.kind, .int .i64 x.D.num, .string x.D.name, x.v] 37)) (fun x W => (Below.refl _ _).alloc (Nat.le_refl _) _) ?assign ?body ?done ?stop
  case assign =>
    rintro l pre ⟨D, d, v⟩ W K ⟨_, hxr, _⟩ hK
    obtain ⟨a, c, hv, _⟩ := row_eq.1 hxr
    have hv : v = .slice a D.len c := hv
    subst hv
    simp only [wenc, Nd.val]
    gi_wp2
    exact hK
  case body =>
    rintro l pre ⟨D, d, v⟩ W1 W3 r hi hz ⟨⟨rest, hcame⟩, hxr, hxf⟩ hW3 hi3
    obtain ⟨av, cv, hv, _⟩ := row_eq.1 hxr
    have hv : v = .slice av D.len cv := hv
    subst hv
    have hcame : pre.map key ++ (D, d) :: rest = T.pre 0 := hcame
    obtain ⟨hk1, hk29⟩ := next_kind HKD.out hcame (fun q hq => by obtain ⟨x, hx, rfl⟩ := List.mem_map.1 hq; exact hi.ok x hx)
    have hk1 : 1 ≤ D.kind := hk1
    have hk29 : D.kind ≤ 29 := hk29
    obtain ⟨k, hk⟩ : ∃ k : Nat, D.kind = (k : Int) := ⟨D.kind.toNat, by omega⟩
    have qr := hi3.res.cell
    have qrf := hi3.res.frozen
    have hbz : W3.heap.size = W1.heap.size + 1 := by rw [hW3]; simp
    have hbx : W3.heap[W1.heap.size]? = some (.cells #[.int .i64 D.kind, .int .i64 D.num, .string D.name, .slice av D.len cv] 37) := by
      rw [hW3, World.putObj_heap_other (by omega)]; exact World.alloc_heap_new W1 _
    have x0 : W3.cell? ⟨W1.heap.size, 0, none⟩ = some (.int .i64 D.kind) := (cell_of_row _ _ 0 _ _ (0, 0) hbx).trans rfl
    have x1 : W3.cell? ⟨W1.heap.size, 1, none⟩ = some (.int .i64 D.num) := (cell_of_row _ _ 1 _ _ (0, 0) hbx).trans rfl
    have x2 : W3.cell? ⟨W1.heap.size, 2, none⟩ = some (.string D.name) := (cell_of_row _ _ 2 _ _ (0, 0) hbx).trans rfl
    have x3 : W3.cell? ⟨W1.heap.size, 3, none⟩ = some (.slice av D.len cv) := (cell_of_row _ _ 3 _ _ (0, 0) hbx).trans rfl
    have hz1 := hi.size
    have HBAD : Hid (fitB D = false → implB T = false) := fun h => impl_unfit hcame h
    have HI := hid_mk hi3
    have HNF := hid_mk (nodefits_any D k hk (by omega) W3 (.slice av D.len cv) w.heap.size hxf hi3.below.size (by omega) (row_below hi3.below (Nat.le_refl _) hxr) (tabs_below HT.out hi3.below))
    have HOK := hid_mk hi.ok
    unfold Nd.val at HNF
    have hzi := HI.out.size
    clear hcame hxr hxf hi hi3 hW3 hI0 hIU hXU c0 c1 c2 c3 c4 hbx hk hk1 hk29
    cases hfb : fitB D
    · have HB2 := hid_mk (HBAD.out hfb)
      gi_wp2_with ((refine ⟨trivial, ?_⟩; gi_at_call 61; refine (CallsIn.inRound l (callsIn_wide.2 HNF.out)).mono ?_; rw [hfb]; rintro e w' ⟨rfl, hb3⟩; have hz3 := hb3.size; have B3 := hid_mk (HI.out.below.trans (hb3.mono (by omega))); have R3 := hid_mk (show Boxed w' (w.heap.size + 1) 4 (.bool false) from (hb3.block _ (by omega)).trans HI.out.res); have K3 := hid_mk (keeps_below hb3); have qr3 := R3.out.cell; have qf3 := R3.out.frozen; clear hb3))
      refine ⟨K3.out.trans (KeepsOthers.setCell _ _ _), rfl, B3.out.setCell (p := ⟨w.heap.size + 1, 0, none⟩) (by show w.heap.size ≤ w.heap.size + 1; omega) _, R3.out.set (.bool false), HB2.out, ?_⟩
      simp [World.setCell]; omega
    · gi_wp2_with ((refine ⟨trivial, ?_⟩; gi_at_call 61; refine (CallsIn.inRound l (callsIn_wide.2 HNF.out)).mono ?_; rw [hfb]; rintro e w' ⟨rfl, hb3⟩; have hz3 := hb3.size; have B3 := hid_mk (HI.out.below.trans (hb3.mono (by omega))); have R3 := hid_mk (show Boxed w' (w.heap.size + 1) 4 (.bool false) from (hb3.block _ (by omega)).trans HI.out.res); have K3 := hid_mk (keeps_below hb3); have F3 : Hid (KeptF (fun k => False) W3 w') := ⟨hb3.size, fun k hk _ => hb3.block k hk⟩; clear hb3))
      refine ⟨K3.out, F3.out, B3.out, R3.out, ?_, by omega⟩
      intro x hx
      rcases List.mem_append.1 hx with hx | hx
      · exact HOK.out x hx
      · rw [List.mem_singleton.1 hx]; exact hfb
  case done =>
    rintro D xs W hD hS hi hK
    have HG : Hid (implB T = true) := impl_all HKD.out HMB.out (fun q hq => by rw [← hS] at hq; obtain ⟨x, hx, rfl⟩ := List.mem_map.1 hq; exact hi.ok x hx)
    have qr := hi.res.cell
    have qrf := hi.res.frozen
    have HI := hid_mk hi
    have HK := hid_mk hK
    clear hS hi hK hI0 hIU hXU c0 c1 c2 c3 c4
    gi_wp2
    have h := HI.out
    have r0 := h.res.set (.bool true)
    have hK3 : (W.setCell ⟨w.heap.size + 1, 0, none⟩ (.bool true)).heap[D]? = some (.deferred (some [])) := (Below.heap_setCell _ _ _ _ (by show D ≠ w.heap.size + 1; omega)).trans HK.out
    have hb3 := h.below.setCell (p := ⟨w.heap.size + 1, 0, none⟩) (by show w.heap.size ≤ w.heap.size + 1; omega) (.bool true)
    revert r0 hK3 hb3
    generalize W.setCell ⟨w.heap.size + 1, 0, none⟩ (.bool true) = X
    intro r0 hK3 hb3
    refine ⟨by simp, .inl ⟨_, _, rfl, run_takeDeferred hK3, ?_⟩⟩
    have gp := grownBy_putObj' X D (.deferred none)
    have p0 := (r0.kept gp (fun e => by have := Option.some.inj e; omega)).cell
    refine ⟨.bool true, by simp [results, Tryd.results48, go_sem, p0], ret_bool HG.out.symm, ?_⟩
    exact hb3.grown gp (by have := hb3.size; omega) (fun k e => by have := Option.some.inj e; omega)
  case stop =>
    rintro D c pre W hD _ hx hK
    obtain rfl := hx.ret
    have hb3 := hx.below
    have r0 := hx.res
    have HO := hid_mk hx.bad
    clear hx hI0 hIU hXU c0 c1 c2 c3 c4
    gi_wp2
    refine ⟨by simp, .inl ⟨_, _, rfl, run_takeDeferred hK, ?_⟩⟩
    have gp := grownBy_putObj' W D (.deferred none)
    have p0 := (r0.kept gp (fun e => by have := Option.some.inj e; omega)).cell
    refine ⟨.bool false, by simp [results, Tryd.results48, go_sem, p0], ret_bool HO.out.symm, ?_⟩
    exact hb3.grown gp (by have := hb3.size; omega) (fun k e => by have := Option.some.inj e; omega)
end Go.Proofs.YtjgbjahcnnjfpaaDoor
