/- The program's TreeOK. -/
import Derived.Test.YtnangkijokficaaDoorLcC
import Derived.Test.YtnangkijokficaaDoorLcA
import Derived.RangeFuncBox
set_option linter.unusedVariables false
namespace Go.Proofs.YtnangkijokficaaDoor
open Go.RowKit Go.Shelf
attribute [local go_sem] Oper.semAt_some

theorem keeps_below {A C : World} (h : Below A.heap.size A C) : KeepsOthers A C := ⟨h.size, fun k o ho _ => (h.block k (Array.getElem?_eq_some_iff.1 ho).1).trans ho⟩

structure TrI (w : World) (pre : List Ent) (W : World) : Prop where
  below : Below w.heap.size w W
  res : Boxed W (w.heap.size + 1) 4 (.bool false)
  cnt : Boxed W (w.heap.size + 1 + 1) 3 (.int .i64 ((1 + lens (pre.map key) : Nat) : Int))
  ok : ∀ x ∈ pre, fitB x.D = true
  few : 1 + lens (pre.map key) ≤ 600
  size : w.heap.size + 3 ≤ W.heap.size
structure TrX (w : World) (T : Nd) (c : Code) (W : World) : Prop where
  ret : c = .ret
  below : Below w.heap.size w W
  res : Boxed W (w.heap.size + 1) 4 (.bool false)
  bad : implB T = false
  size : w.heap.size + 3 ≤ W.heap.size

set_option maxHeartbeats 4000000 in
set_option maxRecDepth 100000 in
theorem impl_tree (T : Nd) (w : World) (u : Value) (hf : T.Fine) (hr : Row 0 w.heap.size w T u) (hc : T.cost ≤ 1048576) (ht : Tabs w) :
    Calls Tryd.prog 18 #[T.val u] w fun e w' => e = .returned (.bool (implB T)) ∧ Below w.heap.size w w' := by
  obtain ⟨au, cu, hu, _⟩ := row_eq.1 hr
  subst hu
  have hlt := ht.lt
  by_cases hk : T.kind = 1
  case neg =>
    have HO : Hid (implB T = false) := by unfold Hid implB; simp [hk]
    have hkb : (T.kind != 1) = true := by rw [bne_iff_ne]; exact hk
    clear hk hr ht
    unfold Nd.val
    generalize T.kind = tk at *
    go_enter Tryd.func18, Tryd.ntmps18
    go_wp2
    refine bodyPost_ret (v := .bool false) (by simp [results, Tryd.results18, go_sem]) rfl ⟨ret_bool HO.out.symm, ?_⟩
    exact ((Below.refl _ _).alloc (Nat.le_refl _) _).alloc (by simp) _
  refine (callsIn_wide (n := 3)).1 ?_
  refine callsIn_of_wp_marks Tryd.func18 rfl trivial ?_ rfl
  unfold Nd.val
  simp only [Tryd.ntmps18, List.size_toArray, List.length_cons, List.length_nil, Nat.reduceAdd, Nat.reduceSub, Array.replicate_succ, Array.replicate_zero, List.push_toArray, List.append_toArray, List.nil_append, List.cons_append]
  have hkb : (T.kind != 1) = false := by simp [hk]
  have HKD := hid_mk hk
  clear hk
  gi_wp2_with ((refine ⟨trivial, ?_⟩; gi_at_call 27; refine (callsIn_wide.2 (nodes_any _ _ _ _ _ _ _)).mono ?_; rintro e w' ⟨rfl, rfl⟩))
  obtain ⟨V, hV⟩ : ∃ V, ((((((w.alloc (.cells #[.int .i64 T.kind, .int .i64 T.num, .string T.name, .slice au T.len cu] 30)).alloc (.cells #[.bool false] 4)).alloc (.cells #[.int .i64 1] 3)).alloc (.cells #[.int .i64 T.kind, .int .i64 T.num, .string T.name, .slice au T.len cu] 30)).alloc (.cells #[.int .i64 T.kind, .int .i64 T.num, .string T.name, .slice au T.len cu] 30)).alloc (.cells #[.func (.func 40) #[] #[]] 60)) = V := ⟨_, rfl⟩
  have hsz : V.heap.size = w.heap.size + 6 := by rw [← hV]; simp
  have hb0 : Below w.heap.size w V := by
    rw [← hV]
    exact ((((((Below.refl _ w).alloc (Nat.le_refl _) _).alloc (by simp) _).alloc (by simp; omega) _).alloc (by simp; omega) _).alloc (by simp; omega) _).alloc (by simp; omega) _
  have c0 : V.cell? ⟨w.heap.size + 1 + 1 + 1 + 1, 0, none⟩ = some (.int .i64 T.kind) := by rw [← hV]; simp [go_sem]
  have c1 : V.cell? ⟨w.heap.size + 1 + 1 + 1 + 1, 1, none⟩ = some (.int .i64 T.num) := by rw [← hV]; simp [go_sem]
  have c2 : V.cell? ⟨w.heap.size + 1 + 1 + 1 + 1, 2, none⟩ = some (.string T.name) := by rw [← hV]; simp [go_sem]
  have c3 : V.cell? ⟨w.heap.size + 1 + 1 + 1 + 1, 3, none⟩ = some (.slice au T.len cu) := by rw [← hV]; simp [go_sem]
  have c4 : V.cell? ⟨w.heap.size + 1 + 1 + 1 + 1 + 1, 0, none⟩ = some (.func (.func 40) #[] #[]) := by rw [← hV]; simp [go_sem]
  have b1 := Boxed.new (w.alloc (.cells #[.int .i64 T.kind, .int .i64 T.num, .string T.name, .slice au T.len cu] 30)) 4 (.bool false)
  have b2 := Boxed.new ((w.alloc (.cells #[.int .i64 T.kind, .int .i64 T.num, .string T.name, .slice au T.len cu] 30)).alloc (.cells #[.bool false] 4)) 3 (.int .i64 1)
  simp only [World.size_alloc] at b1 b2
  have hI0 : TrI w [] V := by
    refine ⟨hb0, ?_, ?_, (fun x hx => by cases hx), by simp [lens], by omega⟩
    · rw [← hV]; exact (((b1.alloc _).alloc _).alloc _).alloc _
    · rw [← hV]; exact ((b2.alloc _).alloc _).alloc _
  have hIU : Under V.heap.size (TrI w) := fun pre A C h hb => by
    have hz := h.size
    exact ⟨h.below.trans (hb.mono (by omega)), (hb.block _ (by omega)).trans h.res, (hb.block _ (by omega)).trans h.cnt, h.ok, h.few, by have := hb.size; omega⟩
  have hXU : ∀ c, Under V.heap.size (fun (_ : List Ent) W => TrX w T c W) := fun c pre A C h hb => by
    have hz := h.size
    exact ⟨h.ret, h.below.trans (hb.mono (by omega)), (hb.block _ (by omega)).trans h.res, h.bad, by have := hb.size; omega⟩
  rw [hV]
  clear hV b1 b2
  have HT := hid_mk ht
  have hn := T.fine_len hf
  refine wpIn_rangeFunc_frame (α := Ent) (encs := wenc) (S := WAll T) (Sp := fun _ => True) (Came := WCame T w.heap.size w) (mine := fun k => k = w.heap.size + 1 + 1) rfl (by omega) (gf := 48) (lb := #[.pointer (some ⟨w.heap.size + 1 + 1 + 1 + 1, 0, none⟩), .pointer (some ⟨w.heap.size + 1 + 1 + 1 + 1 + 1, 0, none⟩)]) rfl trivial (enters_of Tryd.func48 (by kernel_rfl) rfl)
    (fun l J Jx W hWs hbW hJ hJx hJz hY h0 => by
      have hcell : ∀ b o, b < V.heap.size → W.cell? ⟨b, o, none⟩ = V.cell? ⟨b, o, none⟩ := fun b o hb => hbW.cell (p := ⟨b, o, none⟩) hb
      exact walk_in 2 (by omega) T (.slice au T.len cu) w.heap.size V.heap.size (w.heap.size + 1 + 1 + 1 + 1) (w.heap.size + 1 + 1 + 1 + 1 + 1) l (fun k => k = w.heap.size + 1 + 1) J Jx w W hf hc hWs (by omega) (by omega) (by omega) (fun k hk => by omega) (fun k hk => ((hbW.block k (by omega)).trans (hb0.block k hk))) hr hJ hJz hY h0
        ((hcell _ _ (by omega)).trans c0) ((hcell _ _ (by omega)).trans c1) ((hcell _ _ (by omega)).trans c2) ((hcell _ _ (by omega)).trans c3) ((hcell _ _ (by omega)).trans c4))
    (fun _ => rfl) (TrI w) (fun c _ W => TrX w T c W) hIU hXU hI0
    (fun x W => { tmps := #[.agg #[.int .i64 T.kind, .int .i64 T.num, .string T.name, .slice au T.len cu], .pointer (some ⟨w.heap.size, 0, none⟩), .pointer (some ⟨w.heap.size + 1, 0, none⟩), .pointer (some ⟨w.heap.size + 1 + 1, 0, none⟩), .pointer (some ⟨W.heap.size, 0, none⟩), .pointer (some ⟨w.heap.size, 0, none⟩), .int .i64 T.kind, .bool false, .agg #[.int .i64 T.kind, .int .i64 T.num, .string T.name, .slice au T.len cu], .func (.func 48) #[] #[.pointer (some ⟨w.heap.size + 1 + 1 + 1 + 1, 0, none⟩), .pointer (some ⟨w.heap.size + 1 + 1 + 1 + 1 + 1, 0, none⟩)], x.D.val x.v, .int .i64 (x.d : Int), undef, undef, undef, undef, undef, undef, undef, undef, undef, undef, undef, undef], defers := [] })
    (fun x W => W.alloc (.cells #[.int .i64 x.D.kind, .int .i64 x.D.num, .string x.D.name, x.v] 30)) (fun x W => (Below.refl _ _).alloc (Nat.le_refl _) _) ?assign ?body ?done ?stop
  case assign =>
    rintro l pre ⟨D, d, v⟩ W K ⟨_, hxr, _⟩ hK
    obtain ⟨a, c, hv, _⟩ := row_eq.1 hxr
    have hv : v = .slice a D.len c := hv
    subst hv
    simp only [wenc, Nd.val]
    gi_wp2
    exact hK
  case body =>
    rintro l pre ⟨D, d, v⟩ W1 W3 r hi hz ⟨⟨rest, hcame⟩, hxr, hxf⟩ hW3 hi3
    obtain ⟨av, cv, hv, _⟩ := row_eq.1 hxr
    have hv : v = .slice av D.len cv := hv
    subst hv
    have hcame : pre.map key ++ (D, d) :: rest = T.pre 0 := hcame
    obtain ⟨hk1, hk29⟩ := next_kind HKD.out hcame (fun q hq => by obtain ⟨x, hx, rfl⟩ := List.mem_map.1 hq; exact hi.ok x hx)
    have hk1 : 1 ≤ D.kind := hk1
    have hk29 : D.kind ≤ 29 := hk29
    obtain ⟨k, hk⟩ : ∃ k : Nat, D.kind = (k : Int) := ⟨D.kind.toNat, by omega⟩
    have hlen : D.len ≤ 1048576 + 1 := by
      have h1 := lens_pre T 0
      rw [← hcame, lens_app] at h1
      have h2 : lens ((D, d) :: rest) = D.len + lens rest := by simp [lens]
      have := T.size_cost
      omega
    have hfew := hi.few
    have q := hi3.cnt.cell
    have qf := hi3.cnt.frozen
    have qr := hi3.res.cell
    have qrf := hi3.res.frozen
    have hbz : W3.heap.size = W1.heap.size + 1 := by rw [hW3]; simp
    have hbx : W3.heap[W1.heap.size]? = some (.cells #[.int .i64 D.kind, .int .i64 D.num, .string D.name, .slice av D.len cv] 30) := by
      rw [hW3, World.putObj_heap_other (by omega)]; exact World.alloc_heap_new W1 _
    have x0 : W3.cell? ⟨W1.heap.size, 0, none⟩ = some (.int .i64 D.kind) := (cell_of_row _ _ 0 _ _ (0, 0) hbx).trans rfl
    have x1 : W3.cell? ⟨W1.heap.size, 1, none⟩ = some (.int .i64 D.num) := (cell_of_row _ _ 1 _ _ (0, 0) hbx).trans rfl
    have x2 : W3.cell? ⟨W1.heap.size, 2, none⟩ = some (.string D.name) := (cell_of_row _ _ 2 _ _ (0, 0) hbx).trans rfl
    have x3 : W3.cell? ⟨W1.heap.size, 3, none⟩ = some (.slice av D.len cv) := (cell_of_row _ _ 3 _ _ (0, 0) hbx).trans rfl
    have hz1 := hi.size
    have d1 : ¬ W1.heap.size = w.heap.size + 1 + 1 := by omega
    have d2 : ¬ w.heap.size + 1 + 1 = W1.heap.size := by omega
    have HBAD : Hid (600 < 1 + lens (pre.map key) + D.len ∨ fitB D = false → implB T = false) := fun h => impl_bad hcame h
    have HI := hid_mk hi3
    have HNF := hid_mk (fun (W : World) (hb : Below w.heap.size w W) => nodefits_any D k hk (by omega) W (.slice av D.len cv) w.heap.size hxf hb.size (by omega) (row_below hb (Nat.le_refl _) hxr) (tabs_below HT.out hb))
    have hcst : ((1 + lens (pre.map key) : Nat) : Int) + (D.len : Int) = ((1 + lens (pre.map key) + D.len : Nat) : Int) := by omega
    have HCST := hid_mk hcst
    have HOK := hid_mk hi.ok
    unfold Nd.val at HNF
    clear hcame hxr hxf hi hi3 hW3 hI0 hIU hXU c0 c1 c2 c3 c4 hbx hcst hk hk1 hk29
    obtain ⟨ls, hls⟩ : ∃ ls, lens (pre.map key) = ls := ⟨_, rfl⟩
    have HLS := hid_mk hls
    rw [hls] at q hfew HBAD HCST
    clear hls
    have HBS : ∀ u : Value, Hid (Below w.heap.size w (W3.setCell ⟨w.heap.size + 1 + 1, 0, none⟩ u)) := fun u => HI.out.below.setCell (p := ⟨w.heap.size + 1 + 1, 0, none⟩) (by show w.heap.size ≤ w.heap.size + 1 + 1; omega) u
    have HR3 : ∀ u : Value, Hid (Boxed (W3.setCell ⟨w.heap.size + 1 + 1, 0, none⟩ u) (w.heap.size + 1) 4 (.bool false)) := fun u => (Below.heap_setCell _ _ _ _ (by show w.heap.size + 1 ≠ w.heap.size + 1 + 1; omega)).trans HI.out.res
    have HC3 : ∀ u : Value, Hid (Boxed (W3.setCell ⟨w.heap.size + 1 + 1, 0, none⟩ u) (w.heap.size + 1 + 1) 3 u) := fun u => HI.out.cnt.set u
    have HK3 : ∀ u : Value, Hid (KeepsOthers W3 (W3.setCell ⟨w.heap.size + 1 + 1, 0, none⟩ u)) := fun u => KeepsOthers.setCell _ _ _
    have HF3 : ∀ u : Value, Hid (KeptF (fun k => k = w.heap.size + 1 + 1) W3 (W3.setCell ⟨w.heap.size + 1 + 1, 0, none⟩ u)) := fun u => ⟨by simp [World.setCell], fun k hk hm => Below.heap_setCell _ _ _ _ hm⟩
    have HZ3 : ∀ u : Value, Hid ((W3.setCell ⟨w.heap.size + 1 + 1, 0, none⟩ u).heap.size = W3.heap.size) := fun u => by simp [Hid, World.setCell]
    have hzi := HI.out.size
    by_cases hbig : 600 < 1 + ls + D.len
    · have HB2 := hid_mk (HBAD.out (.inl hbig))
      have hbi : (600 : Int) < ((1 + ls : Nat) : Int) + (D.len : Int) := by omega
      gi_wp2_with (refine ⟨trivial, ?_⟩)
      refine ⟨(HK3 _).out.trans (KeepsOthers.setCell _ _ _), rfl, (HBS _).out.setCell (p := ⟨w.heap.size + 1, 0, none⟩) (by show w.heap.size ≤ w.heap.size + 1; omega) _, (HR3 _).out.set (.bool false), HB2.out, ?_⟩
      simp [World.setCell]; omega
    · have hbi : ¬ (600 : Int) < ((1 + ls : Nat) : Int) + (D.len : Int) := by omega
      cases hfb : fitB D
      · have HB2 := hid_mk (HBAD.out (.inr hfb))
        gi_wp2_with ((refine ⟨trivial, ?_⟩; gi_at_call 34; refine (CallsIn.inRound l (callsIn_wide.2 (HNF.out _ (HBS _).out))).mono ?_; rw [hfb]; rintro e w' ⟨rfl, hb3⟩; have hz3 := hb3.size; rw [(HZ3 _).out] at hz3; have B3 := hid_mk ((HBS _).out.trans (hb3.mono (by rw [(HZ3 _).out]; omega))); have R3 := hid_mk (show Boxed w' (w.heap.size + 1) 4 (.bool false) from (hb3.block _ (by rw [(HZ3 _).out]; omega)).trans (HR3 _).out); have K3 := hid_mk ((HK3 _).out.trans (keeps_below hb3)); have qr3 := R3.out.cell; have qf3 := R3.out.frozen; clear hb3))
        refine ⟨K3.out.trans (KeepsOthers.setCell _ _ _), rfl, B3.out.setCell (p := ⟨w.heap.size + 1, 0, none⟩) (by show w.heap.size ≤ w.heap.size + 1; omega) _, R3.out.set (.bool false), HB2.out, ?_⟩
        simp [World.setCell]; omega
      · gi_wp2_with ((refine ⟨trivial, ?_⟩; gi_at_call 34; refine (CallsIn.inRound l (callsIn_wide.2 (HNF.out _ (HBS _).out))).mono ?_; rw [hfb]; rintro e w' ⟨rfl, hb3⟩; have hz3 := hb3.size; rw [(HZ3 _).out] at hz3; have B3 := hid_mk ((HBS _).out.trans (hb3.mono (by rw [(HZ3 _).out]; omega))); have R3 := hid_mk (show Boxed w' (w.heap.size + 1) 4 (.bool false) from (hb3.block _ (by rw [(HZ3 _).out]; omega)).trans (HR3 _).out); have C3 := hid_mk (show Boxed w' (w.heap.size + 1 + 1) 3 _ from (hb3.block _ (by rw [(HZ3 _).out]; omega)).trans (HC3 _).out); have K3 := hid_mk ((HK3 _).out.trans (keeps_below hb3)); have F3 := hid_mk ((HF3 _).out.trans ⟨hb3.size, fun k hk _ => hb3.block k hk⟩); clear hb3))
        refine ⟨K3.out, F3.out, B3.out, R3.out, ?_, ?_, ?_, by omega⟩
        · have := C3.out
          rw [show lens ((pre ++ [(⟨D, d, .slice av D.len cv⟩ : Ent)]).map key) = ls + D.len by rw [List.map_append, lens_app, HLS.out]; simp [lens, key]]
          have e : (1 : Int) + (ls : Int) + (D.len : Int) = ((1 + (ls + D.len) : Nat) : Int) := by omega
          rw [← e]; exact this
        · intro x hx
          rcases List.mem_append.1 hx with hx | hx
          · exact HOK.out x hx
          · rw [List.mem_singleton.1 hx]; exact hfb
        · rw [List.map_append, lens_app, HLS.out]
          have : lens ([(⟨D, d, .slice av D.len cv⟩ : Ent)].map key) = D.len := by simp [lens, key]
          omega
  case done =>
    rintro D xs W hD hS hi hK
    have HG : Hid (implB T = true) := impl_good HKD.out (by have := hi.few; rw [hS] at this; exact this) (fun q hq => by rw [← hS] at hq; obtain ⟨x, hx, rfl⟩ := List.mem_map.1 hq; exact hi.ok x hx)
    have qr := hi.res.cell
    have qrf := hi.res.frozen
    have HI := hid_mk hi
    have HK := hid_mk hK
    clear hS hi hK hI0 hIU hXU c0 c1 c2 c3 c4
    gi_wp2
    have h := HI.out
    have r0 := h.res.set (.bool true)
    have hK3 : (W.setCell ⟨w.heap.size + 1, 0, none⟩ (.bool true)).heap[D]? = some (.deferred (some [])) := (Below.heap_setCell _ _ _ _ (by show D ≠ w.heap.size + 1; omega)).trans HK.out
    have hb3 := h.below.setCell (p := ⟨w.heap.size + 1, 0, none⟩) (by show w.heap.size ≤ w.heap.size + 1; omega) (.bool true)
    revert r0 hK3 hb3
    generalize W.setCell ⟨w.heap.size + 1, 0, none⟩ (.bool true) = X
    intro r0 hK3 hb3
    refine ⟨by simp, .inl ⟨_, _, rfl, run_takeDeferred hK3, ?_⟩⟩
    have gp := grownBy_putObj' X D (.deferred none)
    have p0 := (r0.kept gp (fun e => by have := Option.some.inj e; omega)).cell
    refine ⟨.bool true, by simp [results, Tryd.results18, go_sem, p0], ret_bool HG.out.symm, ?_⟩
    exact hb3.grown gp (by have := hb3.size; omega) (fun k e => by have := Option.some.inj e; omega)
  case stop =>
    rintro D c pre W hD _ hx hK
    obtain rfl := hx.ret
    have hb3 := hx.below
    have r0 := hx.res
    have HO := hid_mk hx.bad
    clear hx hI0 hIU hXU c0 c1 c2 c3 c4
    gi_wp2
    refine ⟨by simp, .inl ⟨_, _, rfl, run_takeDeferred hK, ?_⟩⟩
    have gp := grownBy_putObj' W D (.deferred none)
    have p0 := (r0.kept gp (fun e => by have := Option.some.inj e; omega)).cell
    refine ⟨.bool false, by simp [results, Tryd.results18, go_sem, p0], ret_bool HO.out.symm, ?_⟩
    exact hb3.grown gp (by have := hb3.size; omega) (fun k e => by have := Option.some.inj e; omega)
end Go.Proofs.YtnangkijokficaaDoor
