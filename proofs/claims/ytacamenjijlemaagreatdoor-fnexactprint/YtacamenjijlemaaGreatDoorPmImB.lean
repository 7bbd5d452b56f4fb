/- The program's hasAtMost: a tree has at most so many nodes. -/
import Derived.Test.YtacamenjijlemaaGreatDoorPmWalk
import Derived.Test.YtacamenjijlemaaGreatDoorPmImA
import Derived.RangeFuncBox
set_option linter.unusedVariables false
namespace Go.Proofs.YtacamenjijlemaaGreatDoor
open Go.RowKit Go.Shelf
attribute [local go_sem] Oper.semAt_some

theorem keeps_below {A C : World} (h : Below A.heap.size A C) : KeepsOthers A C := ⟨h.size, fun k o ho _ => (h.block k (Array.getElem?_eq_some_iff.1 ho).1).trans ho⟩

def mostB (T : Nd) (m : Int) : Bool := decide ((T.size : Int) ≤ m)
theorem most_bad {T : Nd} {m : Int} {A B : List (Nd × Nat)} {p : Nd × Nat} (h : A ++ p :: B = T.pre 0) (hb : m < ((1 + lens A + p.1.len : Nat) : Int)) : mostB T m = false := by
  have hs := lens_pre T 0
  rw [← h, lens_app] at hs
  have : lens (p :: B) = p.1.len + lens B := by simp [lens]
  unfold mostB
  rw [decide_eq_false_iff_not]
  omega
theorem most_good {T : Nd} {m : Int} (h : ((1 + lens (T.pre 0) : Nat) : Int) ≤ m) : mostB T m = true := by
  have hs := lens_pre T 0
  unfold mostB
  rw [decide_eq_true_eq]
  omega

/-- What a round keeps. -/
structure MoI (w : World) (m : Int) (pre : List Ent) (W : World) : Prop where
  below : Below w.heap.size w W
  mst : Boxed W (w.heap.size + 1) 3 (.int .i64 m)
  res : Boxed W (w.heap.size + 1 + 1) 4 (.bool false)
  cnt : Boxed W (w.heap.size + 1 + 1 + 1) 3 (.int .i64 ((1 + lens (pre.map key) : Nat) : Int))
  few : ((1 + lens (pre.map key) : Nat) : Int) ≤ m
  size : w.heap.size + 4 ≤ W.heap.size
/-- How it is left. -/
structure MoX (w : World) (T : Nd) (m : Int) (c : Code) (W : World) : Prop where
  ret : c = .ret
  below : Below w.heap.size w W
  res : Boxed W (w.heap.size + 1 + 1) 4 (.bool false)
  bad : mostB T m = false
  size : w.heap.size + 4 ≤ W.heap.size

set_option maxHeartbeats 4000000 in
set_option maxRecDepth 100000 in
theorem most_any (T : Nd) (m : Int) (w : World) (u : Value) (hi : Nat) (hf : T.Fine) (hhi : hi ≤ w.heap.size) (hr : Row 0 hi w T u) (hc : T.cost ≤ 1048576) (hm0 : 1 ≤ m) (hm1 : m ≤ 1000000) :
    Calls Tryz.prog 22 #[T.val u, .int .i64 m] w fun e w' => e = .returned (.bool (mostB T m)) ∧ Below w.heap.size w w' := by
  obtain ⟨au, cu, hu, _⟩ := row_eq.1 hr
  subst hu
  refine (callsIn_wide (n := 3)).1 ?_
  refine callsIn_of_wp_marks Tryz.func22 rfl trivial ?_ rfl
  unfold Nd.val
  simp only [Tryz.ntmps22, List.size_toArray, List.length_cons, List.length_nil, Nat.reduceAdd, Nat.reduceSub, Array.replicate_succ, Array.replicate_zero, List.push_toArray, List.append_toArray, List.nil_append, List.cons_append]
  gi_wp2_with ((refine ⟨trivial, ?_⟩; gi_at_call 23; refine (callsIn_wide.2 (nodes_any _ _ _ _ _ _ _)).mono ?_; rintro e w' ⟨rfl, rfl⟩))
  obtain ⟨V, hV⟩ : ∃ V, (((((((w.alloc (.cells #[.int .i64 T.kind, .int .i64 T.num, .string T.name, .slice au T.len cu] 30)).alloc (.cells #[.int .i64 m] 3)).alloc (.cells #[.bool false] 4)).alloc (.cells #[.int .i64 1] 3)).alloc (.cells #[.int .i64 T.kind, .int .i64 T.num, .string T.name, .slice au T.len cu] 30)).alloc (.cells #[.int .i64 T.kind, .int .i64 T.num, .string T.name, .slice au T.len cu] 30)).alloc (.cells #[.func (.func 32) #[] #[]] 66)) = V := ⟨_, rfl⟩
  have hsz : V.heap.size = w.heap.size + 7 := by rw [← hV]; simp
  have hb0 : Below w.heap.size w V := by
    rw [← hV]
    exact (((((((Below.refl _ w).alloc (Nat.le_refl _) _).alloc (by simp) _).alloc (by simp; omega) _).alloc (by simp; omega) _).alloc (by simp; omega) _).alloc (by simp; omega) _).alloc (by simp; omega) _
  have c0 : V.cell? ⟨w.heap.size + 1 + 1 + 1 + 1 + 1, 0, none⟩ = some (.int .i64 T.kind) := by rw [← hV]; simp [go_sem]
  have c1 : V.cell? ⟨w.heap.size + 1 + 1 + 1 + 1 + 1, 1, none⟩ = some (.int .i64 T.num) := by rw [← hV]; simp [go_sem]
  have c2 : V.cell? ⟨w.heap.size + 1 + 1 + 1 + 1 + 1, 2, none⟩ = some (.string T.name) := by rw [← hV]; simp [go_sem]
  have c3 : V.cell? ⟨w.heap.size + 1 + 1 + 1 + 1 + 1, 3, none⟩ = some (.slice au T.len cu) := by rw [← hV]; simp [go_sem]
  have c4 : V.cell? ⟨w.heap.size + 1 + 1 + 1 + 1 + 1 + 1, 0, none⟩ = some (.func (.func 32) #[] #[]) := by rw [← hV]; simp [go_sem]
  have b1 := Boxed.new (w.alloc (.cells #[.int .i64 T.kind, .int .i64 T.num, .string T.name, .slice au T.len cu] 30)) 3 (.int .i64 m)
  have b2 := Boxed.new ((w.alloc (.cells #[.int .i64 T.kind, .int .i64 T.num, .string T.name, .slice au T.len cu] 30)).alloc (.cells #[.int .i64 m] 3)) 4 (.bool false)
  have b3 := Boxed.new (((w.alloc (.cells #[.int .i64 T.kind, .int .i64 T.num, .string T.name, .slice au T.len cu] 30)).alloc (.cells #[.int .i64 m] 3)).alloc (.cells #[.bool false] 4)) 3 (.int .i64 1)
  simp only [World.size_alloc] at b1 b2 b3
  have hI0 : MoI w m [] V := by
    refine ⟨hb0, ?_, ?_, ?_, by simp [lens]; omega, by omega⟩
    · rw [← hV]; exact ((((b1.alloc _).alloc _).alloc _).alloc _).alloc _
    · rw [← hV]; exact (((b2.alloc _).alloc _).alloc _).alloc _
    · rw [← hV]; exact ((b3.alloc _).alloc _).alloc _
  have hIU : Under V.heap.size (MoI w m) := fun pre A C h hb => by
    have hz := h.size
    exact ⟨h.below.trans (hb.mono (by omega)), (hb.block _ (by omega)).trans h.mst, (hb.block _ (by omega)).trans h.res, (hb.block _ (by omega)).trans h.cnt, h.few, by have := hb.size; omega⟩
  have hXU : ∀ c, Under V.heap.size (fun (_ : List Ent) W => MoX w T m c W) := fun c pre A C h hb => by
    have hz := h.size
    exact ⟨h.ret, h.below.trans (hb.mono (by omega)), (hb.block _ (by omega)).trans h.res, h.bad, by have := hb.size; omega⟩
  rw [hV]
  clear hV b1 b2 b3
  have hn := T.fine_len hf
  have hr' := row_wide hr (Nat.le_refl _) hhi
  refine wpIn_rangeFunc_frame (α := Ent) (encs := wenc) (S := WAll T) (Sp := fun _ => True) (Came := WCame T w.heap.size w) (mine := fun k => k = w.heap.size + 1 + 1 + 1) rfl (by omega) (gf := 47) (lb := #[.pointer (some ⟨w.heap.size + 1 + 1 + 1 + 1 + 1, 0, none⟩), .pointer (some ⟨w.heap.size + 1 + 1 + 1 + 1 + 1 + 1, 0, none⟩)]) rfl trivial (enters_of Tryz.func47 (by kernel_rfl) rfl)
    (fun l J Jx W hWs hbW hJ hJx hJz hY h0 => by
      have hcell : ∀ b o, b < V.heap.size → W.cell? ⟨b, o, none⟩ = V.cell? ⟨b, o, none⟩ := fun b o hb => hbW.cell (p := ⟨b, o, none⟩) hb
      exact walk_in 2 (by omega) T (.slice au T.len cu) w.heap.size V.heap.size (w.heap.size + 1 + 1 + 1 + 1 + 1) (w.heap.size + 1 + 1 + 1 + 1 + 1 + 1) l (fun k => k = w.heap.size + 1 + 1 + 1) J Jx w W hf hc hWs (by omega) (by omega) (by omega) (fun k hk => by omega) (fun k hk => ((hbW.block k (by omega)).trans (hb0.block k hk))) hr' hJ hJz hY h0
        ((hcell _ _ (by omega)).trans c0) ((hcell _ _ (by omega)).trans c1) ((hcell _ _ (by omega)).trans c2) ((hcell _ _ (by omega)).trans c3) ((hcell _ _ (by omega)).trans c4))
    (fun _ => rfl) (MoI w m) (fun c _ W => MoX w T m c W) hIU hXU hI0
    (fun x W => { tmps := #[.agg #[.int .i64 T.kind, .int .i64 T.num, .string T.name, .slice au T.len cu], .int .i64 m, .pointer (some ⟨w.heap.size, 0, none⟩), .pointer (some ⟨w.heap.size + 1, 0, none⟩), .pointer (some ⟨w.heap.size + 1 + 1, 0, none⟩), .pointer (some ⟨w.heap.size + 1 + 1 + 1, 0, none⟩), .pointer (some ⟨W.heap.size, 0, none⟩), .agg #[.int .i64 T.kind, .int .i64 T.num, .string T.name, .slice au T.len cu], .func (.func 47) #[] #[.pointer (some ⟨w.heap.size + 1 + 1 + 1 + 1 + 1, 0, none⟩), .pointer (some ⟨w.heap.size + 1 + 1 + 1 + 1 + 1 + 1, 0, none⟩)], x.D.val x.v, .int .i64 (x.d : Int), undef, undef, undef, undef, undef, undef, undef, undef], defers := [] })
    (fun x W => W.alloc (.cells #[.int .i64 x.D.kind, .int .i64 x.D.num, .string x.D.name, x.v] 30)) (fun x W => (Below.refl _ _).alloc (Nat.le_refl _) _) ?assign ?body ?done ?stop
  case assign =>
    rintro l pre ⟨D, d, v⟩ W K ⟨_, hxr, _⟩ hK
    obtain ⟨a, c, hv, _⟩ := row_eq.1 hxr
    have hv : v = .slice a D.len c := hv
    subst hv
    simp only [wenc, Nd.val]
    gi_wp2
    exact hK
  case body =>
    rintro l pre ⟨D, d, v⟩ W1 W3 r hi' hz ⟨⟨rest, hcame⟩, hxr, hxf⟩ hW3 hi3
    obtain ⟨av, cv, hv, _⟩ := row_eq.1 hxr
    have hv : v = .slice av D.len cv := hv
    subst hv
    have hcame : pre.map key ++ (D, d) :: rest = T.pre 0 := hcame
    have hlen : D.len ≤ 1048576 + 1 := by
      have h1 := lens_pre T 0
      rw [← hcame, lens_app] at h1
      have h2 : lens ((D, d) :: rest) = D.len + lens rest := by simp [lens]
      have := T.size_cost
      omega
    have hfew := hi'.few
    have q := hi3.cnt.cell
    have qf := hi3.cnt.frozen
    have qm := hi3.mst.cell
    have qr := hi3.res.cell
    have qrf := hi3.res.frozen
    have hbz : W3.heap.size = W1.heap.size + 1 := by rw [hW3]; simp
    have hbx : W3.heap[W1.heap.size]? = some (.cells #[.int .i64 D.kind, .int .i64 D.num, .string D.name, .slice av D.len cv] 30) := by
      rw [hW3, World.putObj_heap_other (by omega)]; exact World.alloc_heap_new W1 _
    have x0 : W3.cell? ⟨W1.heap.size, 0, none⟩ = some (.int .i64 D.kind) := (cell_of_row _ _ 0 _ _ (0, 0) hbx).trans rfl
    have x1 : W3.cell? ⟨W1.heap.size, 1, none⟩ = some (.int .i64 D.num) := (cell_of_row _ _ 1 _ _ (0, 0) hbx).trans rfl
    have x2 : W3.cell? ⟨W1.heap.size, 2, none⟩ = some (.string D.name) := (cell_of_row _ _ 2 _ _ (0, 0) hbx).trans rfl
    have x3 : W3.cell? ⟨W1.heap.size, 3, none⟩ = some (.slice av D.len cv) := (cell_of_row _ _ 3 _ _ (0, 0) hbx).trans rfl
    have hz1 := hi'.size
    have d1 : ¬ W1.heap.size = w.heap.size + 1 + 1 + 1 := by omega
    have d2 : ¬ w.heap.size + 1 + 1 + 1 = W1.heap.size := by omega
    have HBAD : Hid (m < ((1 + lens (pre.map key) + D.len : Nat) : Int) → mostB T m = false) := fun h => most_bad hcame h
    have HI := hid_mk hi3
    obtain ⟨ls, hls⟩ : ∃ ls, lens (pre.map key) = ls := ⟨_, rfl⟩
    have HLS := hid_mk hls
    rw [hls] at q hfew HBAD
    clear hls
    have HF3 : ∀ u : Value, Hid (KeptF (fun k => k = w.heap.size + 1 + 1 + 1) W3 (W3.setCell ⟨w.heap.size + 1 + 1 + 1, 0, none⟩ u)) := fun u => ⟨by simp [World.setCell], fun k hk hm => Below.heap_setCell _ _ _ _ hm⟩
    have hzi := HI.out.size
    clear hcame hxr hxf hi' hi3 hW3 hI0 hIU hXU c0 c1 c2 c3 c4 hbx
    have hcst : ((1 + ls : Nat) : Int) + (D.len : Int) = ((1 + ls + D.len : Nat) : Int) := by omega
    have HCST := hid_mk hcst
    clear hcst
    by_cases hbig : m < ((1 + ls : Nat) : Int) + (D.len : Int)
    · have HB2 := hid_mk (HBAD.out (by rw [← HCST.out]; exact hbig))
      gi_wp2_with (refine ⟨trivial, ?_⟩)
      refine ⟨(KeepsOthers.setCell _ _ _).trans (KeepsOthers.setCell _ _ _), rfl, (HI.out.below.setCell (p := ⟨w.heap.size + 1 + 1 + 1, 0, none⟩) (by show w.heap.size ≤ w.heap.size + 1 + 1 + 1; omega) _).setCell (p := ⟨w.heap.size + 1 + 1, 0, none⟩) (by show w.heap.size ≤ w.heap.size + 1 + 1; omega) _, ?_, HB2.out, ?_⟩
      · have RR : ∀ u : Value, Boxed (W3.setCell ⟨w.heap.size + 1 + 1 + 1, 0, none⟩ u) (w.heap.size + 1 + 1) 4 (.bool false) := fun u => (Below.heap_setCell _ _ _ _ (by show w.heap.size + 1 + 1 ≠ w.heap.size + 1 + 1 + 1; omega)).trans HI.out.res
        exact (RR _).set (.bool false)
      · simp [World.setCell]; omega
    · gi_wp2_with (refine ⟨trivial, ?_⟩)
      refine ⟨KeepsOthers.setCell _ _ _, (HF3 _).out, HI.out.below.setCell (p := ⟨w.heap.size + 1 + 1 + 1, 0, none⟩) (by show w.heap.size ≤ w.heap.size + 1 + 1 + 1; omega) _, (Below.heap_setCell _ _ _ _ (by show w.heap.size + 1 ≠ w.heap.size + 1 + 1 + 1; omega)).trans HI.out.mst, (Below.heap_setCell _ _ _ _ (by show w.heap.size + 1 + 1 ≠ w.heap.size + 1 + 1 + 1; omega)).trans HI.out.res, ?_, ?_, by simp [World.setCell]; omega⟩
      · rw [show lens ((pre ++ [(⟨D, d, .slice av D.len cv⟩ : Ent)]).map key) = ls + D.len by rw [List.map_append, lens_app, HLS.out]; simp [lens, key]]
        have e : (1 : Int) + (ls : Int) + (D.len : Int) = ((1 + (ls + D.len) : Nat) : Int) := by omega
        rw [← e]; exact HI.out.cnt.set _
      · rw [show lens ((pre ++ [(⟨D, d, .slice av D.len cv⟩ : Ent)]).map key) = ls + D.len by rw [List.map_append, lens_app, HLS.out]; simp [lens, key]]
        omega
  case done =>
    rintro D xs W hD hS hi' hK
    have HG : Hid (mostB T m = true) := most_good (by have := hi'.few; rw [hS] at this; exact this)
    have qr := hi'.res.cell
    have qrf := hi'.res.frozen
    have HI := hid_mk hi'
    have HK := hid_mk hK
    clear hS hi' hK hI0 hIU hXU c0 c1 c2 c3 c4
    gi_wp2
    have h := HI.out
    have r0 := h.res.set (.bool true)
    have hK3 : (W.setCell ⟨w.heap.size + 1 + 1, 0, none⟩ (.bool true)).heap[D]? = some (.deferred (some [])) := (Below.heap_setCell _ _ _ _ (by show D ≠ w.heap.size + 1 + 1; omega)).trans HK.out
    have hb3 := h.below.setCell (p := ⟨w.heap.size + 1 + 1, 0, none⟩) (by show w.heap.size ≤ w.heap.size + 1 + 1; omega) (.bool true)
    revert r0 hK3 hb3
    generalize W.setCell ⟨w.heap.size + 1 + 1, 0, none⟩ (.bool true) = X
    intro r0 hK3 hb3
    refine ⟨by simp, .inl ⟨_, _, rfl, run_takeDeferred hK3, ?_⟩⟩
    have gp := grownBy_putObj' X D (.deferred none)
    have p0 := (r0.kept gp (fun e => by have := Option.some.inj e; omega)).cell
    refine ⟨.bool true, by simp [results, Tryz.results22, go_sem, p0], ret_bool HG.out.symm, ?_⟩
    exact hb3.grown gp (by have := hb3.size; omega) (fun k e => by have := Option.some.inj e; omega)
  case stop =>
    rintro D c pre W hD _ hx hK
    obtain rfl := hx.ret
    have hb3 := hx.below
    have r0 := hx.res
    have HO := hid_mk hx.bad
    clear hx hI0 hIU hXU c0 c1 c2 c3 c4
    gi_wp2
    refine ⟨by simp, .inl ⟨_, _, rfl, run_takeDeferred hK, ?_⟩⟩
    have gp := grownBy_putObj' W D (.deferred none)
    have p0 := (r0.kept gp (fun e => by have := Option.some.inj e; omega)).cell
    refine ⟨.bool false, by simp [results, Tryz.results22, go_sem, p0], ret_bool HO.out.symm, ?_⟩
    exact hb3.grown gp (by have := hb3.size; omega) (fun k e => by have := Option.some.inj e; omega)
end Go.Proofs.YtacamenjijlemaaGreatDoor

/- The program's test and the specification's are one. -/
namespace Go.Proofs.YtacamenjijlemaaGreatDoor
open Go.RowKit

/-- All nodes of a tree fit. -/
def goodA (T : Nd) (d : Nat) : Bool := (T.pre d).all fun p => fitB p.1
theorem good_eq (T : Nd) (d : Nat) : goodA T d = (fitB T && allTo (fun i => goodA (T.kids i) (d + 1)) T.len) := by
  unfold goodA
  rw [pre_eq, List.all_cons]
  congr 1
  unfold preL
  generalize T.len = n
  induction n with
  | zero => rfl
  | succ n ih => rw [List.range_succ, List.flatMap_append, List.all_append, ih]; simp [allTo]
theorem good_deep (T : Nd) : ∀ d e, goodA T d = goodA T e := by
  induction T with
  | nil => intro d e; rfl
  | mk k n s len kids ih =>
    intro d e
    rw [good_eq, good_eq]
    congr 1
    congr 1
    funext i
    exact ih i (d + 1) (e + 1)
def good (T : Nd) : Bool := goodA T 0
theorem good_cons (T : Nd) : good T = (fitB T && allTo (fun i => good (T.kids i)) T.len) := by
  unfold good
  rw [good_eq]
  congr 1
  congr 1
  funext i
  exact good_deep _ _ _

def isE (k : Int) : Bool := decide (22 ≤ k) && decide (k ≤ 29)
def isS (k : Int) : Bool := decide (4 ≤ k) && decide (k ≤ 21) && !decide (k = 16)

/-- The closed forms of a list against a form. -/
theorem twm (kk : Nat → Int) (c m d : Nat) : twF kk c (m + 1) d = if ofB (kk d) c then twF kk c m (d + 1) + 1 else 0 := rfl
theorem tw0 (kk : Nat → Int) (c d : Nat) : twF kk c 0 d = 0 := rfl
theorem tw_all (kk : Nat → Int) (c : Nat) : ∀ (m d : Nat), decide (twF kk c m d = m) = allTo (fun i => ofB (kk (d + i)) c) m
  | 0, d => rfl
  | m + 1, d => by
    rw [Bool.eq_iff_iff, decide_eq_true_eq, allTo_iff]
    constructor
    · intro h i hi
      exact tw_spec (m := m + 1) (by omega)
    · intro h
      exact tw_of h (Nat.le_refl _) (.inl rfl)
theorem tw_le (kk : Nat → Int) (c : Nat) : ∀ (m d : Nat), twF kk c m d ≤ m
  | 0, d => Nat.le_refl _
  | m + 1, d => by
    rw [twm]; split
    · have := tw_le kk c m (d + 1); omega
    · omega
/-- 'x*' -/
theorem fits_star (kk : Nat → Int) (len : Nat) (c : UInt8) : fitsF kk len 2 [c, 42] 0 = allTo (fun i => ofB (kk i) c.toNat) len := by
  have h : fitsF kk len 2 [c, 42] 0 = decide (0 + twF kk c.toNat (len - 0) 0 = len) := by
    simp [fitsF]
  rw [h]
  have := tw_all kk c.toNat len 0
  simp only [Nat.zero_add, Nat.sub_zero] at this ⊢
  exact this

theorem fits_none (kk : Nat → Int) (len : Nat) : fitsF kk len 0 [] 0 = decide (len = 0) := by
  simp [fitsF, eq_comm]
theorem fits_one (kk : Nat → Int) (len : Nat) (c : UInt8) : fitsF kk len 1 [c] 0 = (decide (len = 1) && ofB (kk 0) c.toNat) := by
  rcases len with _ | _ | n
  · simp [fitsF, twF]
  · cases h : ofB (kk 0) c.toNat <;> simp [fitsF, twF, h]
  · cases h : ofB (kk 0) c.toNat <;> simp [fitsF, twF, h]
theorem fits_two (kk : Nat → Int) (len : Nat) (c c' : UInt8) (h1 : c' ≠ 63) (h2 : c' ≠ 42) : fitsF kk len 2 [c, c'] 0 = (decide (len = 2) && (ofB (kk 0) c.toNat && ofB (kk 1) c'.toNat)) := by
  rcases len with _ | _ | _ | n
  · simp [fitsF, twF, h1, h2]
  · cases h : ofB (kk 0) c.toNat <;> simp [fitsF, twF, h, h1, h2]
  · cases h : ofB (kk 0) c.toNat <;> cases h' : ofB (kk 1) c'.toNat <;> simp [fitsF, twF, h, h', h1, h2]
  · cases h : ofB (kk 0) c.toNat <;> cases h' : ofB (kk 1) c'.toNat <;> simp [fitsF, twF, h, h', h1, h2]
theorem fits_three (kk : Nat → Int) (len : Nat) (c c' c'' : UInt8) (h1 : c' ≠ 63) (h2 : c' ≠ 42) (h3 : c'' ≠ 63) (h4 : c'' ≠ 42) : fitsF kk len 3 [c, c', c''] 0 = (decide (len = 3) && (ofB (kk 0) c.toNat && ofB (kk 1) c'.toNat && ofB (kk 2) c''.toNat)) := by
  rcases len with _ | _ | _ | _ | n
  · simp [fitsF, twF, h1, h2]
  · cases h : ofB (kk 0) c.toNat <;> simp [fitsF, twF, h, h1, h2, h3, h4]
  · cases h : ofB (kk 0) c.toNat <;> cases h' : ofB (kk 1) c'.toNat <;> simp [fitsF, twF, h, h', h1, h2, h3, h4]
  · cases h : ofB (kk 0) c.toNat <;> cases h' : ofB (kk 1) c'.toNat <;> cases h'' : ofB (kk 2) c''.toNat <;> simp [fitsF, twF, h, h', h'', h1, h2, h3, h4]
  · cases h : ofB (kk 0) c.toNat <;> cases h' : ofB (kk 1) c'.toNat <;> cases h'' : ofB (kk 2) c''.toNat <;> simp [fitsF, twF, h, h', h'', h1, h2, h3, h4]
theorem fits_may (kk : Nat → Int) (len : Nat) (c : UInt8) : fitsF kk len 2 [c, 63] 0 = (decide (len = 0) || (decide (len = 1) && ofB (kk 0) c.toNat)) := by
  rcases len with _ | _ | n
  · simp [fitsF, twF]
  · cases h : ofB (kk 0) c.toNat <;> simp [fitsF, twF, h]
  · cases h : ofB (kk 0) c.toNat <;> simp [fitsF, twF, h]
theorem fits_mayb (kk : Nat → Int) (len : Nat) : fitsF kk len 3 [101, 63, 98] 0 = ((decide (len = 1) && ofB (kk 0) 98) || (decide (len = 2) && (ofB (kk 0) 101 && ofB (kk 1) 98))) := by
  have hd : ofB (kk 0) 101 = true → ofB (kk 0) 98 = false := fun h => by simp [ofB] at h ⊢; omega
  rcases len with _ | _ | _ | n
  · simp [fitsF, twF]
  · cases h : ofB (kk 0) 101 <;> cases h' : ofB (kk 0) 98 <;> simp_all [fitsF, twF]
  · cases h : ofB (kk 0) 101 <;> cases h' : ofB (kk 0) 98 <;> cases h'' : ofB (kk 1) 98 <;> simp_all [fitsF, twF]
  · cases h : ofB (kk 0) 101 <;> cases h' : ofB (kk 0) 98 <;> cases h'' : ofB (kk 1) 98 <;> simp_all [fitsF, twF]
theorem fits_if (kk : Nat → Int) (len : Nat) : fitsF kk len 4 [101, 98, 111, 63] 0 = (ofB (kk 0) 101 && ofB (kk 1) 98 && (decide (len = 2) || (decide (len = 3) && ofB (kk 2) 111))) := by
  rcases len with _ | _ | _ | _ | n
  · simp [fitsF, twF]
  · cases h : ofB (kk 0) 101 <;> simp [fitsF, twF, h]
  · cases h : ofB (kk 0) 101 <;> cases h' : ofB (kk 1) 98 <;> simp [fitsF, twF, h, h']
  · cases h : ofB (kk 0) 101 <;> cases h' : ofB (kk 1) 98 <;> cases h'' : ofB (kk 2) 111 <;> simp [fitsF, twF, h, h', h'']
  · cases h : ofB (kk 0) 101 <;> cases h' : ofB (kk 1) 98 <;> cases h'' : ofB (kk 2) 111 <;> simp [fitsF, twF, h, h', h'']
theorem fits_func (kk : Nat → Int) (len : Nat) : fitsF kk len 3 [112, 42, 98] 0 = (decide (1 ≤ len) && (allTo (fun i => ofB (kk i) 112) (len - 1) && ofB (kk (len - 1)) 98)) := by
  have hd : ∀ k, ofB k 112 = true → ofB k 98 = false := fun k h => by simp [ofB] at h ⊢; omega
  have h0 : fitsF kk len 3 [112, 42, 98] 0 = if twF kk 98 (min 1 (len - twF kk 112 len 0)) (twF kk 112 len 0) < 1 then false else decide (twF kk 112 len 0 + twF kk 98 (min 1 (len - twF kk 112 len 0)) (twF kk 112 len 0) = len) := by
    simp [fitsF]
  rw [h0]
  have hle := tw_le kk 112 len 0
  have hsp := fun i (hi : i < twF kk 112 len 0) => tw_spec (kk := kk) (c := 112) (m := len) (d := 0) (i := i) hi
  simp only [Nat.zero_add] at hsp
  have hof := fun t (h1 : ∀ i, i < t → ofB (kk (0 + i)) 112 = true) (h2 : t ≤ len) (h3 : t = len ∨ ofB (kk (0 + t)) 112 = false) => tw_of (kk := kk) (c := 112) (m := len) (t := t) (d := 0) h1 h2 h3
  simp only [Nat.zero_add] at hof
  rw [Bool.eq_iff_iff]
  generalize ht : twF kk 112 len 0 = t at *
  constructor
  · intro h
    split at h
    · cases h
    · rename_i hn
      have hlt : t < len := by
        rcases Nat.lt_or_ge t len with h | h
        · exact h
        · exfalso; apply hn; rw [show len - t = 0 by omega]; simp [twF]
      have hb : ofB (kk t) 98 = true := by
        rw [show min 1 (len - t) = 0 + 1 by omega, twm] at hn
        cases hb : ofB (kk t) 98 with
        | true => rfl
        | false => exfalso; apply hn; simp [hb]
      have h1 : twF kk 98 (min 1 (len - t)) t = 1 := by rw [show min 1 (len - t) = 0 + 1 by omega, twm]; simp [hb, tw0]
      rw [h1] at h
      have hl : len = t + 1 := by have := of_decide_eq_true h; omega
      subst hl
      simp only [Nat.add_sub_cancel, hb, Bool.and_true, Bool.and_eq_true, decide_eq_true_eq]
      exact ⟨by omega, allTo_true hsp⟩
  · intro h
    simp only [Bool.and_eq_true, decide_eq_true_eq] at h
    obtain ⟨h1, h2, h3⟩ := h
    have hall := allTo_iff.1 h2
    have hn : ofB (kk (len - 1)) 112 = false := by
      cases hx : ofB (kk (len - 1)) 112 with
      | false => rfl
      | true => rw [hd _ hx] at h3; cases h3
    have := hof (len - 1) hall (by omega) (.inr hn)
    subst this
    have hw : twF kk 98 (min 1 (len - (len - 1))) (len - 1) = 1 := by rw [show min 1 (len - (len - 1)) = 0 + 1 by omega, twm]; simp [h3, tw0]
    rw [hw]
    simp
    omega

theorem sorts1 (e st : Nat → Bool) (kk : Nat → Int) (len : Nat) (c : UInt8) : sortsB e st kk len ⟨#[c]⟩ = (decide (len = 1) && sortB e st kk c.toNat 0) := by
  unfold sortsB
  show (decide (len = 1) && (allTo _ 1)) = _
  simp [allTo]
theorem sorts2 (e st : Nat → Bool) (kk : Nat → Int) (len : Nat) (c c' : UInt8) : sortsB e st kk len ⟨#[c, c']⟩ = (decide (len = 2) && (sortB e st kk c.toNat 0 && sortB e st kk c'.toNat 1)) := by
  unfold sortsB
  show (decide (len = 2) && (allTo _ 2)) = _
  simp [allTo]
theorem sorts3 (e st : Nat → Bool) (kk : Nat → Int) (len : Nat) (c c' c'' : UInt8) : sortsB e st kk len ⟨#[c, c', c'']⟩ = (decide (len = 3) && (sortB e st kk c.toNat 0 && sortB e st kk c'.toNat 1 && sortB e st kk c''.toNat 2)) := by
  unfold sortsB
  show (decide (len = 3) && (allTo _ 3)) = _
  simp [allTo]
end Go.Proofs.YtacamenjijlemaaGreatDoor

/- The program's test and the specification's are one: kind by kind. -/
namespace Go.Proofs.YtacamenjijlemaaGreatDoor
open Go.RowKit

def rhs (k n : Int) (s : ByteArray) (len : Nat) (kk : Nat → Int) (g : Nat → Bool) : Bool := numB k n && nmB k n s && fitsF kk len (formOf k n).size (formOf k n).data.toList 0 && allTo g len

theorem ofE (k : Int) : ofB k 101 = isE k := by simp [ofB, isE]
theorem ofS (k : Int) : ofB k 115 = isS k := by simp [ofB, isS]
theorem ofBk (k : Int) : ofB k 98 = decide (k = 4) := by simp [ofB]
theorem ofC (k : Int) : ofB k 99 = decide (k = 25) := by simp [ofB]
theorem ofA (k : Int) : ofB k 97 = (decide (k = 25) || decide (k = 29)) := by simp [ofB]
theorem ofO (k : Int) : ofB k 111 = (decide (k = 4) || decide (k = 10)) := by simp [ofB]
theorem ofW (k : Int) : ofB k 119 = decide (k = 16) := by simp [ofB]
theorem ofF (k : Int) : ofB k 102 = decide (k = 2) := by simp [ofB]
theorem ofP (k : Int) : ofB k 112 = decide (k = 3) := by simp [ofB]
theorem all_and (p g : Nat → Bool) : ∀ n, allTo (fun i => p i && g i) n = (allTo p n && allTo g n)
  | 0 => rfl
  | n + 1 => by
    simp only [allTo, all_and p g n]
    cases allTo p n <;> cases p n <;> cases allTo g n <;> cases g n <;> rfl

theorem name_full (s : ByteArray) (h : nameB s = true) : emptyB s = false := by
  unfold emptyB
  rw [empty_list]
  cases hl : s.data.toList with
  | nil =>
    have hz : s.size = 0 := by rw [← size_list', hl]; rfl
    simp [nameB, wordOkB, hz] at h
  | cons => rfl

section
variable (n : Int) (s : ByteArray) (len : Nat) (kk : Nat → Int) (g : Nat → Bool)

theorem rhs22 : exprB 22 n s len (fun i => isE (kk i) && g i) (fun i => isS (kk i) && g i) kk = rhs 22 n s len kk g := by
  show (emptyB s && (decide (0 ≤ n) && decide (n ≤ 999999999999999999) && decide (len = 0))) = (decide (0 ≤ n) && decide (n ≤ 999999999999999999) && emptyB s && fitsF kk len 0 [] 0 && allTo g len)
  rw [fits_none]
  rcases len with _ | len <;> cases emptyB s <;> simp [allTo]
theorem rhs23 : exprB 23 n s len (fun i => isE (kk i) && g i) (fun i => isS (kk i) && g i) kk = rhs 23 n s len kk g := by
  show (emptyB s && ((decide (n = 0) || decide (n = 1)) && decide (len = 0))) = ((decide (n = 0) || decide (n = 1)) && emptyB s && fitsF kk len 0 [] 0 && allTo g len)
  rw [fits_none]
  rcases len with _ | len <;> cases emptyB s <;> simp [allTo]
theorem rhs24 : exprB 24 n s len (fun i => isE (kk i) && g i) (fun i => isS (kk i) && g i) kk = rhs 24 n s len kk g := by
  show (decide (n = 0) && (nameB s && decide (len = 0))) = (decide (n = 0) && nameB s && fitsF kk len 0 [] 0 && allTo g len)
  rw [fits_none]
  rcases len with _ | len <;> cases nameB s <;> simp [allTo]
theorem rhs25 : exprB 25 n s len (fun i => isE (kk i) && g i) (fun i => isS (kk i) && g i) kk = rhs 25 n s len kk g := by
  show (decide (n = 0) && (nameB s && allTo (fun i => isE (kk i) && g i) len)) = (decide (n = 0) && nameB s && fitsF kk len 2 [101, 42] 0 && allTo g len)
  rw [fits_star, all_and]
  simp only [show (101 : UInt8).toNat = 101 from rfl, ofE]
  cases nameB s <;> cases allTo (fun i => isE (kk i)) len <;> simp
theorem rhs26 : exprB 26 n s len (fun i => isE (kk i) && g i) (fun i => isS (kk i) && g i) kk = rhs 26 n s len kk g := by
  show (emptyB s && decide (n = 0) && (decide (len < 2) && allTo (fun i => isE (kk i) && g i) len)) = (decide (n = 0) && emptyB s && fitsF kk len 2 [101, 63] 0 && allTo g len)
  rw [fits_may]
  simp only [show (101 : UInt8).toNat = 101 from rfl, ofE]
  by_cases h0 : len = 0
  · subst h0
    cases decide (n = 0) <;> cases emptyB s <;> rfl
  by_cases h1 : len = 1
  · subst h1
    simp only [allTo, decide_true, Bool.true_and]
    cases decide (n = 0) <;> cases emptyB s <;> cases isE (kk 0) <;> cases g 0 <;> rfl
  · have h2 : ¬ len < 2 := by omega
    simp [h0, h1, h2]
theorem rhs27 : exprB 27 n s len (fun i => isE (kk i) && g i) (fun i => isS (kk i) && g i) kk = rhs 27 n s len kk g := by
  show (decide (n = 0) && ((s.toList == [45] || s.toList == [33]) && sortsB (fun i => isE (kk i) && g i) (fun i => isS (kk i) && g i) kk len ⟨#[101]⟩)) = (decide (n = 0) && (s.toList == [45] || s.toList == [33]) && fitsF kk len 1 [101] 0 && allTo g len)
  rw [fits_one, sorts1]
  simp only [show (101 : UInt8).toNat = 101 from rfl, ofE, sortB]
  by_cases hl : len = 1
  · subst hl
    simp only [allTo, decide_true, Bool.true_and]
    cases decide (n = 0) <;> cases (s.toList == [45] || s.toList == [33]) <;> cases isE (kk 0) <;> cases g 0 <;> rfl
  · simp [hl]
theorem rhs28 : exprB 28 n s len (fun i => isE (kk i) && g i) (fun i => isS (kk i) && g i) kk = rhs 28 n s len kk g := by
  show (decide (n = 0) && (decide (0 < lvl s) && sortsB (fun i => isE (kk i) && g i) (fun i => isS (kk i) && g i) kk len ⟨#[101, 101]⟩)) = (decide (n = 0) && decide (0 < lvl s) && fitsF kk len 2 [101, 101] 0 && allTo g len)
  rw [fits_two _ _ _ _ (by decide) (by decide), sorts2]
  simp only [show (101 : UInt8).toNat = 101 from rfl, ofE, sortB]
  by_cases hl : len = 2
  · subst hl
    simp only [allTo, decide_true, Bool.true_and]
    cases decide (n = 0) <;> cases decide (0 < lvl s) <;> cases isE (kk 0) <;> cases isE (kk 1) <;> cases g 0 <;> cases g 1 <;> rfl
  · simp [hl]
theorem rhs29 : exprB 29 n s len (fun i => isE (kk i) && g i) (fun i => isS (kk i) && g i) kk = rhs 29 n s len kk g := by
  show (emptyB s && decide (n = 0) && sortsB (fun i => isE (kk i) && g i) (fun i => isS (kk i) && g i) kk len ⟨#[101]⟩) = (decide (n = 0) && emptyB s && fitsF kk len 1 [101] 0 && allTo g len)
  rw [fits_one, sorts1]
  simp only [show (101 : UInt8).toNat = 101 from rfl, ofE, sortB]
  by_cases hl : len = 1
  · subst hl
    simp only [allTo, decide_true, Bool.true_and]
    cases decide (n = 0) <;> cases emptyB s <;> cases isE (kk 0) <;> cases g 0 <;> rfl
  · simp [hl]
variable (cs : Nat → Bool)
theorem rhs4 : stmtB 4 n s len (fun i => isE (kk i) && g i) (fun i => isS (kk i) && g i) cs kk = rhs 4 n s len kk g := by
  show (emptyB s && decide (n = 0) && allTo (fun i => isS (kk i) && g i) len) = (decide (n = 0) && emptyB s && fitsF kk len 2 [115, 42] 0 && allTo g len)
  rw [fits_star, all_and]
  simp only [show (115 : UInt8).toNat = 115 from rfl, ofS]
  cases decide (n = 0) <;> cases emptyB s <;> cases allTo (fun i => isS (kk i)) len <;> cases allTo g len <;> rfl
theorem rhs5 : stmtB 5 n s len (fun i => isE (kk i) && g i) (fun i => isS (kk i) && g i) cs kk = rhs 5 n s len kk g := by
  show (!emptyB s && nameB s && decide (n = 0) && sortsB (fun i => isE (kk i) && g i) (fun i => isS (kk i) && g i) kk len ⟨#[101]⟩) = (decide (n = 0) && nameB s && fitsF kk len 1 [101] 0 && allTo g len)
  rw [fits_one, sorts1]
  simp only [show (101 : UInt8).toNat = 101 from rfl, ofE, sortB]
  by_cases hl : len = 1
  · subst hl
    simp only [allTo, decide_true, Bool.true_and]
    have hne := name_full s
    cases hnm : nameB s
    · cases decide (n = 0) <;> cases emptyB s <;> rfl
    rw [hne hnm]
    cases decide (n = 0) <;> cases isE (kk 0) <;> cases g 0 <;> rfl
  · simp [hl]
theorem rhs6 : stmtB 6 n s len (fun i => isE (kk i) && g i) (fun i => isS (kk i) && g i) cs kk = rhs 6 n s len kk g := by
  show (!emptyB s && nameB s && decide (n = 0) && sortsB (fun i => isE (kk i) && g i) (fun i => isS (kk i) && g i) kk len ⟨#[101]⟩) = (decide (n = 0) && nameB s && fitsF kk len 1 [101] 0 && allTo g len)
  rw [fits_one, sorts1]
  simp only [show (101 : UInt8).toNat = 101 from rfl, ofE, sortB]
  by_cases hl : len = 1
  · subst hl
    simp only [allTo, decide_true, Bool.true_and]
    have hne := name_full s
    cases hnm : nameB s
    · cases decide (n = 0) <;> cases emptyB s <;> rfl
    rw [hne hnm]
    cases decide (n = 0) <;> cases isE (kk 0) <;> cases g 0 <;> rfl
  · simp [hl]
theorem rhs7 : stmtB 7 n s len (fun i => isE (kk i) && g i) (fun i => isS (kk i) && g i) cs kk = rhs 7 n s len kk g := by
  show (!emptyB s && nameB s && ((decide (n = 1) || decide (n = -1)) && decide (len = 0))) = ((decide (n = 1) || decide (n = -1)) && nameB s && fitsF kk len 0 [] 0 && allTo g len)
  rw [fits_none]
  have hne := name_full s
  by_cases hl : len = 0
  · subst hl
    cases hnm : nameB s
    · cases (decide (n = 1) || decide (n = -1)) <;> cases emptyB s <;> rfl
    rw [hne hnm]
    cases (decide (n = 1) || decide (n = -1)) <;> rfl
  · simp [hl]
theorem rhs8 : stmtB 8 n s len (fun i => isE (kk i) && g i) (fun i => isS (kk i) && g i) cs kk = rhs 8 n s len kk g := by
  show (emptyB s && decide (n = 0) && sortsB (fun i => isE (kk i) && g i) (fun i => isS (kk i) && g i) kk len ⟨#[101, 101]⟩) = (decide (n = 0) && emptyB s && fitsF kk len 2 [101, 101] 0 && allTo g len)
  rw [fits_two _ _ _ _ (by decide) (by decide), sorts2]
  simp only [show (101 : UInt8).toNat = 101 from rfl, ofE, sortB]
  by_cases hl : len = 2
  · subst hl
    simp only [allTo, decide_true, Bool.true_and]
    cases decide (n = 0) <;> cases emptyB s <;> cases isE (kk 0) <;> cases isE (kk 1) <;> cases g 0 <;> cases g 1 <;> rfl
  · simp [hl]
theorem rhs19 : stmtB 19 n s len (fun i => isE (kk i) && g i) (fun i => isS (kk i) && g i) cs kk = rhs 19 n s len kk g := by
  show (emptyB s && decide (n = 0) && sortsB (fun i => isE (kk i) && g i) (fun i => isS (kk i) && g i) kk len ⟨#[101]⟩) = (decide (n = 0) && emptyB s && fitsF kk len 1 [101] 0 && allTo g len)
  rw [fits_one, sorts1]
  simp only [show (101 : UInt8).toNat = 101 from rfl, ofE, sortB]
  by_cases hl : len = 1
  · subst hl
    simp only [allTo, decide_true, Bool.true_and]
    cases decide (n = 0) <;> cases emptyB s <;> cases isE (kk 0) <;> cases g 0 <;> rfl
  · simp [hl]
theorem rhs20 : stmtB 20 n s len (fun i => isE (kk i) && g i) (fun i => isS (kk i) && g i) cs kk = rhs 20 n s len kk g := by
  show (emptyB s && decide (n = 0) && sortsB (fun i => isE (kk i) && g i) (fun i => isS (kk i) && g i) kk len ⟨#[101]⟩) = (decide (n = 0) && emptyB s && fitsF kk len 1 [101] 0 && allTo g len)
  rw [fits_one, sorts1]
  simp only [show (101 : UInt8).toNat = 101 from rfl, ofE, sortB]
  by_cases hl : len = 1
  · subst hl
    simp only [allTo, decide_true, Bool.true_and]
    cases decide (n = 0) <;> cases emptyB s <;> cases isE (kk 0) <;> cases g 0 <;> rfl
  · simp [hl]
theorem rhs21 : stmtB 21 n s len (fun i => isE (kk i) && g i) (fun i => isS (kk i) && g i) cs kk = rhs 21 n s len kk g := by
  show (emptyB s && decide (n = 0) && sortsB (fun i => isE (kk i) && g i) (fun i => isS (kk i) && g i) kk len ⟨#[101]⟩) = (decide (n = 0) && emptyB s && fitsF kk len 1 [101] 0 && allTo g len)
  rw [fits_one, sorts1]
  simp only [show (101 : UInt8).toNat = 101 from rfl, ofE, sortB]
  by_cases hl : len = 1
  · subst hl
    simp only [allTo, decide_true, Bool.true_and]
    cases decide (n = 0) <;> cases emptyB s <;> cases isE (kk 0) <;> cases g 0 <;> rfl
  · simp [hl]
theorem call_isE (k : Int) (h : (decide (k = 25) || decide (k = 29)) = true) : isE k = true := by
  simp [isE] at h ⊢; omega
theorem rhs9 : stmtB 9 n s len (fun i => isE (kk i) && g i) (fun i => isS (kk i) && g i) cs kk = rhs 9 n s len kk g := by
  show (emptyB s && decide (n = 0) && (sortsB (fun i => isE (kk i) && g i) (fun i => isS (kk i) && g i) kk len ⟨#[101]⟩ && (decide (kk 0 = 25) || decide (kk 0 = 29)))) = (decide (n = 0) && emptyB s && fitsF kk len 1 [97] 0 && allTo g len)
  rw [fits_one, sorts1]
  simp only [show (101 : UInt8).toNat = 101 from rfl, show (97 : UInt8).toNat = 97 from rfl, ofA, sortB]
  by_cases hl : len = 1
  · subst hl
    simp only [allTo, decide_true, Bool.true_and, if_true]
    have hc := call_isE (kk 0)
    cases hx : (decide (kk 0 = 25) || decide (kk 0 = 29))
    · cases decide (n = 0) <;> cases emptyB s <;> cases isE (kk 0) <;> cases g 0 <;> rfl
    · rw [hc hx]
      cases decide (n = 0) <;> cases emptyB s <;> cases g 0 <;> rfl
  · simp [hl]
theorem call1 (k : Int) (h : decide (k = 25) = true) : isE k = true := by
  simp [isE] at h ⊢; omega
theorem blk1 (k : Int) (h : decide (k = 4) = true) : isS k = true := by
  simp [isS] at h ⊢; omega
theorem blk2 (k : Int) (h : (decide (k = 4) || decide (k = 10)) = true) : isS k = true := by
  simp [isS] at h ⊢; omega
theorem rhs13 : stmtB 13 n s len (fun i => isE (kk i) && g i) (fun i => isS (kk i) && g i) cs kk = rhs 13 n s len kk g := by
  show (emptyB s && decide (n = 0) && sortsB (fun i => isE (kk i) && g i) (fun i => isS (kk i) && g i) kk len ⟨#[99]⟩) = (decide (n = 0) && emptyB s && fitsF kk len 1 [99] 0 && allTo g len)
  rw [fits_one, sorts1]
  simp only [show (99 : UInt8).toNat = 99 from rfl, ofC, sortB]
  by_cases hl : len = 1
  · subst hl
    simp only [allTo]
    have hc := call1 (kk 0)
    cases hx : decide (kk 0 = 25)
    · cases decide (n = 0) <;> cases emptyB s <;> cases g 0 <;> rfl
    · rw [hc hx]
      cases decide (n = 0) <;> cases emptyB s <;> cases g 0 <;> rfl
  · simp [hl]
theorem rhs14 : stmtB 14 n s len (fun i => isE (kk i) && g i) (fun i => isS (kk i) && g i) cs kk = rhs 14 n s len kk g := by
  show (emptyB s && decide (n = 0) && sortsB (fun i => isE (kk i) && g i) (fun i => isS (kk i) && g i) kk len ⟨#[99]⟩) = (decide (n = 0) && emptyB s && fitsF kk len 1 [99] 0 && allTo g len)
  rw [fits_one, sorts1]
  simp only [show (99 : UInt8).toNat = 99 from rfl, ofC, sortB]
  by_cases hl : len = 1
  · subst hl
    simp only [allTo]
    have hc := call1 (kk 0)
    cases hx : decide (kk 0 = 25)
    · cases decide (n = 0) <;> cases emptyB s <;> cases g 0 <;> rfl
    · rw [hc hx]
      cases decide (n = 0) <;> cases emptyB s <;> cases g 0 <;> rfl
  · simp [hl]
theorem rhs17 : stmtB 17 n s len (fun i => isE (kk i) && g i) (fun i => isS (kk i) && g i) cs kk = rhs 17 n s len kk g := by
  show (emptyB s && decide (n = 0) && decide (len = 0)) = (decide (n = 0) && emptyB s && fitsF kk len 0 [] 0 && allTo g len)
  rw [fits_none]
  by_cases hl : len = 0
  · subst hl
    cases decide (n = 0) <;> cases emptyB s <;> rfl
  · simp [hl]
theorem rhs18 : stmtB 18 n s len (fun i => isE (kk i) && g i) (fun i => isS (kk i) && g i) cs kk = rhs 18 n s len kk g := by
  show (emptyB s && decide (n = 0) && decide (len = 0)) = (decide (n = 0) && emptyB s && fitsF kk len 0 [] 0 && allTo g len)
  rw [fits_none]
  by_cases hl : len = 0
  · subst hl
    cases decide (n = 0) <;> cases emptyB s <;> rfl
  · simp [hl]
theorem rhs12 : stmtB 12 n s len (fun i => isE (kk i) && g i) (fun i => isS (kk i) && g i) cs kk = rhs 12 n s len kk g := by
  show (emptyB s && decide (n = 0) && (decide (len = 0) || sortsB (fun i => isE (kk i) && g i) (fun i => isS (kk i) && g i) kk len ⟨#[101]⟩)) = (decide (n = 0) && emptyB s && fitsF kk len 2 [101, 63] 0 && allTo g len)
  rw [fits_may, sorts1]
  simp only [show (101 : UInt8).toNat = 101 from rfl, ofE, sortB]
  by_cases h0 : len = 0
  · subst h0
    cases decide (n = 0) <;> cases emptyB s <;> rfl
  by_cases h1 : len = 1
  · subst h1
    simp only [allTo]
    cases decide (n = 0) <;> cases emptyB s <;> cases isE (kk 0) <;> cases g 0 <;> rfl
  · simp [h0, h1]
theorem rhs15 (hcs : cs = fun i => decide (kk i = 16) && g i) : stmtB 15 n s len (fun i => isE (kk i) && g i) (fun i => isS (kk i) && g i) cs kk = rhs 15 n s len kk g := by
  subst hcs
  show (emptyB s && decide (n = 0) && allTo (fun i => decide (kk i = 16) && g i) len) = (decide (n = 0) && emptyB s && fitsF kk len 2 [119, 42] 0 && allTo g len)
  rw [fits_star, all_and]
  simp only [show (119 : UInt8).toNat = 119 from rfl, ofW]
  cases decide (n = 0) <;> cases emptyB s <;> cases allTo (fun i => decide (kk i = 16)) len <;> cases allTo g len <;> rfl
theorem rhs10 : stmtB 10 n s len (fun i => isE (kk i) && g i) (fun i => isS (kk i) && g i) cs kk = rhs 10 n s len kk g := by
  show (emptyB s && decide (n = 0) && (sortsB (fun i => isE (kk i) && g i) (fun i => isS (kk i) && g i) kk len ⟨#[101, 98]⟩ || sortsB (fun i => isE (kk i) && g i) (fun i => isS (kk i) && g i) kk len ⟨#[101, 98, 105]⟩)) = (decide (n = 0) && emptyB s && fitsF kk len 4 [101, 98, 111, 63] 0 && allTo g len)
  rw [fits_if, sorts2, sorts3]
  simp only [show (101 : UInt8).toNat = 101 from rfl, ofE, show (98 : UInt8).toNat = 98 from rfl, show (105 : UInt8).toNat = 105 from rfl, ofBk, ofO, sortB]
  have hb1 := blk1 (kk 1)
  have hb2 := blk2 (kk 2)
  by_cases h2 : len = 2
  · subst h2
    simp only [allTo]
    cases hx : decide (kk 1 = 4)
    · cases decide (n = 0) <;> cases emptyB s <;> cases isE (kk 0) <;> cases g 0 <;> cases g 1 <;> rfl
    · rw [hb1 hx]
      cases decide (n = 0) <;> cases emptyB s <;> cases isE (kk 0) <;> cases g 0 <;> cases g 1 <;> rfl
  by_cases h3 : len = 3
  · subst h3
    simp only [allTo]
    cases hx : decide (kk 1 = 4)
    · cases decide (n = 0) <;> cases emptyB s <;> cases isE (kk 0) <;> cases g 0 <;> rfl
    · rw [hb1 hx]
      cases hy : (decide (kk 2 = 4) || decide (kk 2 = 10))
      · cases decide (n = 0) <;> cases emptyB s <;> cases isE (kk 0) <;> cases g 0 <;> cases g 1 <;> rfl
      · rw [hb2 hy]
        cases decide (n = 0) <;> cases emptyB s <;> cases isE (kk 0) <;> cases g 0 <;> cases g 1 <;> cases g 2 <;> rfl
  · simp [h2, h3]
theorem rhs11 : stmtB 11 n s len (fun i => isE (kk i) && g i) (fun i => isS (kk i) && g i) cs kk = rhs 11 n s len kk g := by
  show (emptyB s && decide (n = 0) && (sortsB (fun i => isE (kk i) && g i) (fun i => isS (kk i) && g i) kk len ⟨#[98]⟩ || sortsB (fun i => isE (kk i) && g i) (fun i => isS (kk i) && g i) kk len ⟨#[101, 98]⟩)) = (decide (n = 0) && emptyB s && fitsF kk len 3 [101, 63, 98] 0 && allTo g len)
  rw [fits_mayb, sorts1, sorts2]
  simp only [show (101 : UInt8).toNat = 101 from rfl, ofE, show (98 : UInt8).toNat = 98 from rfl, ofBk, sortB]
  have hb0 := blk1 (kk 0)
  have hb1 := blk1 (kk 1)
  by_cases h1 : len = 1
  · subst h1
    simp only [allTo]
    cases hx : decide (kk 0 = 4)
    · cases decide (n = 0) <;> cases emptyB s <;> cases isE (kk 0) <;> cases g 0 <;> rfl
    · rw [hb0 hx]
      cases decide (n = 0) <;> cases emptyB s <;> cases isE (kk 0) <;> cases g 0 <;> rfl
  by_cases h2 : len = 2
  · subst h2
    simp only [allTo]
    cases hx : decide (kk 1 = 4)
    · cases decide (n = 0) <;> cases emptyB s <;> cases isE (kk 0) <;> cases g 0 <;> cases g 1 <;> cases decide (kk 0 = 4) <;> cases isS (kk 0) <;> rfl
    · rw [hb1 hx]
      cases decide (n = 0) <;> cases emptyB s <;> cases isE (kk 0) <;> cases g 0 <;> cases g 1 <;> cases decide (kk 0 = 4) <;> cases isS (kk 0) <;> rfl
  · simp [h1, h2]
end
end Go.Proofs.YtacamenjijlemaaGreatDoor

/- The program's test of a tree and the specification's come to one. -/
namespace Go.Proofs.YtacamenjijlemaaGreatDoor
open Go.RowKit

theorem good_rhs (T : Nd) : good T = rhs T.kind T.num T.name T.len T.kk (fun i => good (T.kids i)) := good_cons T

theorem case_rhs (n : Int) (s : ByteArray) (len : Nat) (kk : Nat → Int) (g : Nat → Bool) : caseB 16 n s len (fun i => isE (kk i) && g i) (fun i => isS (kk i) && g i) kk = rhs 16 n s len kk g := by
  have e1 : caseB 16 n s len (fun i => isE (kk i) && g i) (fun i => isS (kk i) && g i) kk = ((emptyB s || (decide (n = 1) && nameB s)) &&
    (if n = 0 then sortsB (fun i => isE (kk i) && g i) (fun i => isS (kk i) && g i) kk len ⟨#[98]⟩ else if n = 1 then sortsB (fun i => isE (kk i) && g i) (fun i => isS (kk i) && g i) kk len ⟨#[101, 98]⟩ else if n = 2 then sortsB (fun i => isE (kk i) && g i) (fun i => isS (kk i) && g i) kk len ⟨#[101, 101, 98]⟩ else false)) := rfl
  have e2 : rhs 16 n s len kk g = (decide (0 ≤ n) && decide (n ≤ 2) && (emptyB s || (decide (n = 1) && nameB s)) && fitsF kk len (formOf 16 n).size (formOf 16 n).data.toList 0 && allTo g len) := rfl
  rw [e1, e2]
  by_cases h0 : n = 0
  · subst h0
    show ((emptyB s || (false && nameB s)) && sortsB _ _ kk len ⟨#[98]⟩) = (true && true && (emptyB s || (false && nameB s)) && fitsF kk len 1 [98] 0 && allTo g len)
    rw [fits_one, sorts1]
    simp only [show (98 : UInt8).toNat = 98 from rfl, ofBk, sortB]
    have hb := blk1 (kk 0)
    by_cases hl : len = 1
    · subst hl
      simp only [allTo]
      cases hx : decide (kk 0 = 4)
      · cases emptyB s <;> cases g 0 <;> rfl
      · rw [hb hx]; cases emptyB s <;> cases g 0 <;> rfl
    · simp [hl]
  by_cases h1 : n = 1
  · subst h1
    show ((emptyB s || (true && nameB s)) && sortsB _ _ kk len ⟨#[101, 98]⟩) = (true && true && (emptyB s || (true && nameB s)) && fitsF kk len 2 [101, 98] 0 && allTo g len)
    rw [fits_two _ _ _ _ (by decide) (by decide), sorts2]
    simp only [show (98 : UInt8).toNat = 98 from rfl, show (101 : UInt8).toNat = 101 from rfl, ofBk, ofE, sortB]
    have hb := blk1 (kk 1)
    by_cases hl : len = 2
    · subst hl
      simp only [allTo]
      cases hx : decide (kk 1 = 4)
      · cases (emptyB s || (true && nameB s)) <;> cases isE (kk 0) <;> cases g 0 <;> cases g 1 <;> rfl
      · rw [hb hx]; cases (emptyB s || (true && nameB s)) <;> cases isE (kk 0) <;> cases g 0 <;> cases g 1 <;> rfl
    · simp [hl]
  by_cases h2 : n = 2
  · subst h2
    show ((emptyB s || (false && nameB s)) && sortsB _ _ kk len ⟨#[101, 101, 98]⟩) = (true && true && (emptyB s || (false && nameB s)) && fitsF kk len 3 [101, 101, 98] 0 && allTo g len)
    rw [fits_three _ _ _ _ _ (by decide) (by decide) (by decide) (by decide), sorts3]
    simp only [show (98 : UInt8).toNat = 98 from rfl, show (101 : UInt8).toNat = 101 from rfl, ofBk, ofE, sortB]
    have hb := blk1 (kk 2)
    by_cases hl : len = 3
    · subst hl
      simp only [allTo]
      cases hx : decide (kk 2 = 4)
      · cases emptyB s <;> cases isE (kk 0) <;> cases isE (kk 1) <;> cases g 0 <;> cases g 1 <;> cases g 2 <;> rfl
      · rw [hb hx]; cases emptyB s <;> cases isE (kk 0) <;> cases isE (kk 1) <;> cases g 0 <;> cases g 1 <;> cases g 2 <;> rfl
    · simp [hl]
  · rw [if_neg h0, if_neg h1, if_neg h2, Bool.and_false]
    have : (decide (0 ≤ n) && decide (n ≤ 2)) = false := by
      rw [Bool.and_eq_false_iff]
      by_cases hx : 0 ≤ n
      · exact .inr (decide_eq_false (by omega))
      · exact .inl (decide_eq_false hx)
    rw [this]; rfl

theorem eqv (T : Nd) : T.eOk = (isE T.kind && good T) ∧ T.sOk = (isS T.kind && good T) ∧ T.cOk = (decide (T.kind = 16) && good T) := by
  have step : ∀ T : Nd, (∀ i, (T.kids i).eOk = (isE (T.kids i).kind && good (T.kids i)) ∧ (T.kids i).sOk = (isS (T.kids i).kind && good (T.kids i)) ∧ (T.kids i).cOk = (decide ((T.kids i).kind = 16) && good (T.kids i))) →
      T.eOk = (isE T.kind && good T) ∧ T.sOk = (isS T.kind && good T) ∧ T.cOk = (decide (T.kind = 16) && good T) := by
    intro T ih
    have hE : (fun i => (T.kids i).eOk) = fun i => isE (T.kk i) && good (T.kids i) := funext fun i => (ih i).1
    have hS : (fun i => (T.kids i).sOk) = fun i => isS (T.kk i) && good (T.kids i) := funext fun i => (ih i).2.1
    have hC : (fun i => (T.kids i).cOk) = fun i => decide (T.kk i = 16) && good (T.kids i) := funext fun i => (ih i).2.2
    refine ⟨?_, ?_, ?_⟩
    · rw [eOk_eq, hE, hS, good_rhs]
      by_cases h22 : T.kind = 22
      · rw [h22]; exact rhs22 _ _ _ _ _
      by_cases h23 : T.kind = 23
      · rw [h23]; exact rhs23 _ _ _ _ _
      by_cases h24 : T.kind = 24
      · rw [h24]; exact rhs24 _ _ _ _ _
      by_cases h25 : T.kind = 25
      · rw [h25]; exact rhs25 _ _ _ _ _
      by_cases h26 : T.kind = 26
      · rw [h26]; exact rhs26 _ _ _ _ _
      by_cases h27 : T.kind = 27
      · rw [h27]; exact rhs27 _ _ _ _ _
      by_cases h28 : T.kind = 28
      · rw [h28]; exact rhs28 _ _ _ _ _
      by_cases h29 : T.kind = 29
      · rw [h29]; exact rhs29 _ _ _ _ _
      have hf : isE T.kind = false := by
        cases hx : isE T.kind with
        | false => rfl
        | true => exfalso; simp [isE] at hx; omega
      rw [hf, Bool.false_and]
      unfold exprB
      simp only [h22, h23, h24, h25, h26, h27, h28, h29, if_false]
    · rw [sOk_eq, hE, hS, hC, good_rhs]
      by_cases h4 : T.kind = 4
      · rw [h4]; exact rhs4 _ _ _ _ _ _
      by_cases h5 : T.kind = 5
      · rw [h5]; exact rhs5 _ _ _ _ _ _
      by_cases h6 : T.kind = 6
      · rw [h6]; exact rhs6 _ _ _ _ _ _
      by_cases h7 : T.kind = 7
      · rw [h7]; exact rhs7 _ _ _ _ _ _
      by_cases h8 : T.kind = 8
      · rw [h8]; exact rhs8 _ _ _ _ _ _
      by_cases h9 : T.kind = 9
      · rw [h9]; exact rhs9 _ _ _ _ _ _
      by_cases h10 : T.kind = 10
      · rw [h10]; exact rhs10 _ _ _ _ _ _
      by_cases h11 : T.kind = 11
      · rw [h11]; exact rhs11 _ _ _ _ _ _
      by_cases h12 : T.kind = 12
      · rw [h12]; exact rhs12 _ _ _ _ _ _
      by_cases h13 : T.kind = 13
      · rw [h13]; exact rhs13 _ _ _ _ _ _
      by_cases h14 : T.kind = 14
      · rw [h14]; exact rhs14 _ _ _ _ _ _
      by_cases h17 : T.kind = 17
      · rw [h17]; exact rhs17 _ _ _ _ _ _
      by_cases h18 : T.kind = 18
      · rw [h18]; exact rhs18 _ _ _ _ _ _
      by_cases h19 : T.kind = 19
      · rw [h19]; exact rhs19 _ _ _ _ _ _
      by_cases h20 : T.kind = 20
      · rw [h20]; exact rhs20 _ _ _ _ _ _
      by_cases h21 : T.kind = 21
      · rw [h21]; exact rhs21 _ _ _ _ _ _
      by_cases h15 : T.kind = 15
      · rw [h15]; exact rhs15 _ _ _ _ _ _ rfl
      have hf : isS T.kind = false := by
        cases hx : isS T.kind with
        | false => rfl
        | true => exfalso; simp [isS] at hx; omega
      rw [hf, Bool.false_and]
      unfold stmtB
      simp only [h4, h5, h6, h7, h8, h9, h10, h11, h12, h13, h14, h17, h18, h19, h20, h21, h15, or_self, if_false]
    · rw [cOk_eq, hE, hS, good_rhs]
      by_cases h16 : T.kind = 16
      · rw [h16]; exact case_rhs _ _ _ _ _
      · unfold caseB
        simp [h16]
  induction T with
  | nil => exact step .nil fun i => ⟨rfl, rfl, rfl⟩
  | mk k n s len kids ih => exact step _ fun i => ih i

theorem param_good (P : Nd) : paramB P = (decide (P.kind = 3) && good P) := by
  rw [good_rhs]
  by_cases hk : P.kind = 3
  · unfold paramB
    rw [hk]
    show (true && nameB P.name && (decide (1 ≤ P.num) && decide (P.num ≤ 3)) && decide (P.len = 0)) = (true && ((decide (1 ≤ P.num) && decide (P.num ≤ 3)) && nameB P.name && fitsF P.kk P.len 0 [] 0 && allTo _ P.len))
    rw [fits_none]
    by_cases hl : P.len = 0
    · rw [hl]
      cases nameB P.name <;> cases (decide (1 ≤ P.num) && decide (P.num ≤ 3)) <;> rfl
    · simp [hl]
  · unfold paramB; simp [hk]

theorem func_good (T : Nd) : funcB T = (decide (T.kind = 2) && good T) := by
  rw [good_rhs]
  by_cases hk : T.kind = 2
  · unfold funcB
    rw [hk]
    show (true && nameB T.name && (decide (0 ≤ T.num) && decide (T.num ≤ 3)) && decide (1 ≤ T.len) && (allTo (fun i => paramB (T.kids i)) (T.len - 1) && (decide ((T.kids (T.len - 1)).kind = 4) && (T.kids (T.len - 1)).sOk))) =
      (true && ((decide (0 ≤ T.num) && decide (T.num ≤ 3)) && nameB T.name && fitsF T.kk T.len 3 [112, 42, 98] 0 && allTo (fun i => good (T.kids i)) T.len))
    rw [fits_func, (eqv _).2.1]
    have hp : (fun i => paramB (T.kids i)) = fun i => decide (T.kk i = 3) && good (T.kids i) := funext fun i => param_good _
    rw [hp, all_and]
    simp only [ofP, ofBk]
    by_cases hl : 1 ≤ T.len
    · obtain ⟨m, hm⟩ : ∃ m, T.len = m + 1 := ⟨T.len - 1, by omega⟩
      rw [hm]
      show _ = (true && ((decide (0 ≤ T.num) && decide (T.num ≤ 3)) && nameB T.name && (decide (1 ≤ m + 1) && (allTo (fun i => decide (T.kk i = 3)) m && decide (T.kk m = 4))) && (allTo (fun i => good (T.kids i)) m && good (T.kids m))))
      have hb := blk1 (T.kids m).kind
      have hkk : T.kk m = (T.kids m).kind := rfl
      rw [hkk]
      simp only [Nat.add_sub_cancel]
      cases hx : decide ((T.kids m).kind = 4)
      · cases nameB T.name <;> cases (decide (0 ≤ T.num) && decide (T.num ≤ 3)) <;> cases decide (1 ≤ m + 1) <;> cases allTo (fun i => decide (T.kk i = 3)) m <;> cases allTo (fun i => good (T.kids i)) m <;> cases good (T.kids m) <;> rfl
      · rw [hb hx]
        cases nameB T.name <;> cases (decide (0 ≤ T.num) && decide (T.num ≤ 3)) <;> cases decide (1 ≤ m + 1) <;> cases allTo (fun i => decide (T.kk i = 3)) m <;> cases allTo (fun i => good (T.kids i)) m <;> cases good (T.kids m) <;> rfl
    · simp [hl]
  · unfold funcB; simp [hk]

theorem tree_one (T : Nd) : implB T = treeB T := by
  have hg : ((T.pre 0).all fun p => fitB p.1) = good T := rfl
  unfold implB treeB
  rw [hg, good_rhs]
  by_cases hk : T.kind = 1
  · rw [hk]
    show (true && decide (T.size ≤ 600) && (decide (T.num = 0) && emptyB T.name && fitsF T.kk T.len 2 [102, 42] 0 && allTo (fun i => good (T.kids i)) T.len)) = (decide (T.size ≤ 600) && true && decide (T.num = 0) && emptyB T.name && allTo (fun i => funcB (T.kids i)) T.len)
    have hp : (fun i => funcB (T.kids i)) = fun i => decide (T.kk i = 2) && good (T.kids i) := funext fun i => func_good _
    rw [hp, all_and, fits_star]
    simp only [show (102 : UInt8).toNat = 102 from rfl, ofF]
    cases decide (T.size ≤ 600) <;> cases decide (T.num = 0) <;> cases emptyB T.name <;> cases allTo (fun i => decide (T.kk i = 2)) T.len <;> cases allTo (fun i => good (T.kids i)) T.len <;> rfl
  · simp [hk]
end Go.Proofs.YtacamenjijlemaaGreatDoor

/- The program's TreeOK. -/
namespace Go.Proofs.YtacamenjijlemaaGreatDoor
open Go.RowKit Go.Shelf
attribute [local go_sem] Oper.semAt_some

/-- What a round of the test keeps. -/
structure TrI (w w2 : World) (pre : List Ent) (W : World) : Prop where
  below : Below w.heap.size w W
  res : Boxed W (w.heap.size + 1) 4 (.bool false)
  ok : ∀ x ∈ pre, fitB x.D = true
  size : w2.heap.size + 3 ≤ W.heap.size
/-- How it is left. -/
structure TrX (w w2 : World) (T : Nd) (c : Code) (W : World) : Prop where
  ret : c = .ret
  below : Below w.heap.size w W
  res : Boxed W (w.heap.size + 1) 4 (.bool false)
  bad : implB T = false
  size : w2.heap.size + 3 ≤ W.heap.size

theorem impl_big {T : Nd} (h : mostB T 600 = false) : implB T = false := by
  unfold mostB at h
  have h : ¬ ((T.size : Int) ≤ 600) := by simpa using h
  have h6 : ¬ T.size ≤ 600 := by omega
  unfold implB
  simp [h6]
theorem impl_unfit {T : Nd} {A B : List (Nd × Nat)} {p : Nd × Nat} (h : A ++ p :: B = T.pre 0) (hb : fitB p.1 = false) : implB T = false := impl_bad h (.inr hb)
theorem impl_all {T : Nd} (hT : T.kind = 1) (h6 : mostB T 600 = true) (hA : ∀ q ∈ T.pre 0, fitB q.1 = true) : implB T = true := by
  unfold mostB at h6
  have h6 : (T.size : Int) ≤ 600 := by simpa using h6
  refine impl_good hT ?_ hA
  have := lens_pre T 0
  omega

set_option maxHeartbeats 4000000 in
set_option maxRecDepth 100000 in
theorem impl_tree (T : Nd) (w : World) (u : Value) (hf : T.Fine) (hr : Row 0 w.heap.size w T u) (hc : T.cost ≤ 1048576) (ht : Tabs w) :
    Calls Tryz.prog 13 #[T.val u] w fun e w' => e = .returned (.bool (implB T)) ∧ Below w.heap.size w w' := by
  obtain ⟨au, cu, hu, _⟩ := row_eq.1 hr
  subst hu
  have hlt := ht.lt
  by_cases hk : T.kind = 1
  case neg =>
    have HO : Hid (implB T = false) := by unfold Hid implB; simp [hk]
    have hkb : (T.kind != 1) = true := by rw [bne_iff_ne]; exact hk
    clear hk hr ht
    unfold Nd.val
    generalize T.kind = tk at *
    go_enter Tryz.func13, Tryz.ntmps13
    go_wp2
    refine bodyPost_ret (v := .bool false) (by simp [results, Tryz.results13, go_sem]) rfl ⟨ret_bool HO.out.symm, ?_⟩
    exact ((Below.refl _ _).alloc (Nat.le_refl _) _).alloc (by simp) _
  have hkb : (T.kind != 1) = false := by simp [hk]
  have HKD := hid_mk hk
  clear hk
  have HM : Hid (∀ (W : World), Below w.heap.size w W → Calls Tryz.prog 22 #[T.val (.slice au T.len cu), .int .i64 600] W fun e w' => e = .returned (.bool (mostB T 600)) ∧ Below W.heap.size W w') :=
    fun W hb => most_any T 600 W _ w.heap.size hf hb.size (row_below hb (Nat.le_refl _) hr) hc (by omega) (by omega)
  unfold Nd.val at HM
  obtain ⟨W0, hW0⟩ : ∃ W0, (w.alloc (.cells #[.int .i64 T.kind, .int .i64 T.num, .string T.name, .slice au T.len cu] 30)).alloc (.cells #[.bool false] 4) = W0 := ⟨_, rfl⟩
  have HZ0 : Hid (W0.heap.size = w.heap.size + 2) := by unfold Hid; rw [← hW0]; simp
  have HB0 : Hid (Below w.heap.size w W0) := by rw [← hW0]; exact ((Below.refl _ _).alloc (Nat.le_refl _) _).alloc (by simp) _
  have HC0 : Hid (W0.cell? ⟨w.heap.size, 0, none⟩ = some (.int .i64 T.kind) ∧ W0.cell? ⟨w.heap.size, 1, none⟩ = some (.int .i64 T.num) ∧ W0.cell? ⟨w.heap.size, 2, none⟩ = some (.string T.name) ∧ W0.cell? ⟨w.heap.size, 3, none⟩ = some (.slice au T.len cu) ∧ Boxed W0 (w.heap.size + 1) 4 (.bool false)) := by
    have b1 := Boxed.new (w.alloc (.cells #[.int .i64 T.kind, .int .i64 T.num, .string T.name, .slice au T.len cu] 30)) 4 (.bool false)
    simp only [World.size_alloc] at b1
    unfold Hid
    rw [← hW0]
    exact ⟨by simp [go_sem], by simp [go_sem], by simp [go_sem], by simp [go_sem], b1⟩
  have HW0 := hid_mk hW0
  clear hW0
  cases hmb : mostB T 600
  case false =>
    have HO := hid_mk (impl_big hmb)
    unfold Nd.val
    clear hr ht
    go_enter Tryz.func13, Tryz.ntmps13
    go_wp2_with (go_at_call 22; rw [HW0.out]; refine (HM.out _ HB0.out).mono ?_; rw [hmb]; rintro e w2 ⟨rfl, hb2⟩; obtain ⟨q0, q1, q2, q3, qb⟩ := HC0.out; have R2 := hid_mk (show Boxed w2 (w.heap.size + 1) 4 (.bool false) from (hb2.block _ (by have := HZ0.out; omega)).trans qb); have HB2 := hid_mk (HB0.out.trans (hb2.mono (by have := HZ0.out; omega))); have r1 := R2.out.cell; have r2 := R2.out.frozen; clear hb2 qb)
    refine bodyPost_ret (v := .bool false) (by have := (R2.out.set (.bool false)).cell; simp [results, Tryz.results13, go_sem, this]) rfl ⟨ret_bool HO.out.symm, ?_⟩
    exact HB2.out.setCell (p := ⟨w.heap.size + 1, 0, none⟩) (by show w.heap.size ≤ w.heap.size + 1; omega) _
  have HMB := hid_mk hmb
  refine (callsIn_wide (n := 3)).1 ?_
  refine callsIn_of_wp_marks Tryz.func13 rfl trivial ?_ rfl
  unfold Nd.val
  simp only [Tryz.ntmps13, List.size_toArray, List.length_cons, List.length_nil, Nat.reduceAdd, Nat.reduceSub, Array.replicate_succ, Array.replicate_zero, List.push_toArray, List.append_toArray, List.nil_append, List.cons_append]
  gi_wp2_with (refine ⟨trivial, ?_⟩; first
    | (gi_at_call 22; rw [HW0.out]; refine (callsIn_wide.2 (HM.out _ HB0.out)).mono ?_; rw [hmb]; rintro e w2 ⟨rfl, hb2⟩; obtain ⟨q0, q1, q2, q3, qb⟩ := HC0.out; rw [← hb2.cell (p := ⟨w.heap.size, _, none⟩) (show w.heap.size < W0.heap.size by have := HZ0.out; omega)] at q0 q1 q2 q3; have R2 := hid_mk (show Boxed w2 (w.heap.size + 1) 4 (.bool false) from (hb2.block _ (by have := HZ0.out; omega)).trans qb); have HB2 := hid_mk (HB0.out.trans (hb2.mono (by have := HZ0.out; omega))); have HZ2 := hid_mk (show w.heap.size + 2 ≤ w2.heap.size by have := hb2.size; have := HZ0.out; omega); clear hb2 qb)
    | (gi_at_call 23; refine (callsIn_wide.2 (nodes_any _ _ _ _ _ _ _)).mono ?_; rintro e w' ⟨rfl, rfl⟩))
  obtain ⟨V, hV⟩ : ∃ V, ((w2.alloc (.cells #[.int .i64 T.kind, .int .i64 T.num, .string T.name, .slice au T.len cu] 30)).alloc (.cells #[.int .i64 T.kind, .int .i64 T.num, .string T.name, .slice au T.len cu] 30)).alloc (.cells #[.func (.func 32) #[] #[]] 66) = V := ⟨_, rfl⟩
  have hsz : V.heap.size = w2.heap.size + 3 := by rw [← hV]; simp
  have hz2 := HZ2.out
  have hb2V : Below w2.heap.size w2 V := by
    rw [← hV]
    exact (((Below.refl _ w2).alloc (Nat.le_refl _) _).alloc (by simp) _).alloc (by simp; omega) _
  have hb0 : Below w.heap.size w V := HB2.out.trans (hb2V.mono (by omega))
  have c0 : V.cell? ⟨w2.heap.size + 1, 0, none⟩ = some (.int .i64 T.kind) := by rw [← hV]; simp [go_sem]
  have c1 : V.cell? ⟨w2.heap.size + 1, 1, none⟩ = some (.int .i64 T.num) := by rw [← hV]; simp [go_sem]
  have c2 : V.cell? ⟨w2.heap.size + 1, 2, none⟩ = some (.string T.name) := by rw [← hV]; simp [go_sem]
  have c3 : V.cell? ⟨w2.heap.size + 1, 3, none⟩ = some (.slice au T.len cu) := by rw [← hV]; simp [go_sem]
  have c4 : V.cell? ⟨w2.heap.size + 1 + 1, 0, none⟩ = some (.func (.func 32) #[] #[]) := by rw [← hV]; simp [go_sem]
  have hI0 : TrI w w2 [] V := ⟨hb0, (hb2V.block _ (by omega)).trans R2.out, (fun x hx => by cases hx), by omega⟩
  have hIU : Under V.heap.size (TrI w w2) := fun pre A C h hb => by
    have hz := h.size
    exact ⟨h.below.trans (hb.mono (by omega)), (hb.block _ (by omega)).trans h.res, h.ok, by have := hb.size; omega⟩
  have hXU : ∀ c, Under V.heap.size (fun (_ : List Ent) W => TrX w w2 T c W) := fun c pre A C h hb => by
    have hz := h.size
    exact ⟨h.ret, h.below.trans (hb.mono (by omega)), (hb.block _ (by omega)).trans h.res, h.bad, by have := hb.size; omega⟩
  rw [hV]
  clear hV q0 q1 q2 q3
  have HT := hid_mk ht
  have hn := T.fine_len hf
  refine wpIn_rangeFunc_frame (α := Ent) (encs := wenc) (S := WAll T) (Sp := fun _ => True) (Came := WCame T w.heap.size w) (mine := fun k => False) rfl (by omega) (gf := 47) (lb := #[.pointer (some ⟨w2.heap.size + 1, 0, none⟩), .pointer (some ⟨w2.heap.size + 1 + 1, 0, none⟩)]) rfl trivial (enters_of Tryz.func47 (by kernel_rfl) rfl)
    (fun l J Jx W hWs hbW hJ hJx hJz hY h0 => by
      have hcell : ∀ b o, b < V.heap.size → W.cell? ⟨b, o, none⟩ = V.cell? ⟨b, o, none⟩ := fun b o hb => hbW.cell (p := ⟨b, o, none⟩) hb
      exact walk_in 2 (by omega) T (.slice au T.len cu) w.heap.size V.heap.size (w2.heap.size + 1) (w2.heap.size + 1 + 1) l (fun k => False) J Jx w W hf hc hWs (by omega) (by omega) (by omega) (fun k hk => hk.elim) (fun k hk => ((hbW.block k (by omega)).trans (hb0.block k hk))) hr hJ hJz hY h0
        ((hcell _ _ (by omega)).trans c0) ((hcell _ _ (by omega)).trans c1) ((hcell _ _ (by omega)).trans c2) ((hcell _ _ (by omega)).trans c3) ((hcell _ _ (by omega)).trans c4))
    (fun _ => rfl) (TrI w w2) (fun c _ W => TrX w w2 T c W) hIU hXU hI0
    (fun x W => { tmps := #[.agg #[.int .i64 T.kind, .int .i64 T.num, .string T.name, .slice au T.len cu], .pointer (some ⟨w.heap.size, 0, none⟩), .pointer (some ⟨w.heap.size + 1, 0, none⟩), .pointer (some ⟨W.heap.size, 0, none⟩), .pointer (some ⟨w.heap.size, 0, none⟩), .int .i64 T.kind, .bool false, .bool false, .agg #[.int .i64 T.kind, .int .i64 T.num, .string T.name, .slice au T.len cu], .bool true, .bool false, .bool false, .agg #[.int .i64 T.kind, .int .i64 T.num, .string T.name, .slice au T.len cu], .func (.func 47) #[] #[.pointer (some ⟨w2.heap.size + 1, 0, none⟩), .pointer (some ⟨w2.heap.size + 1 + 1, 0, none⟩)], x.D.val x.v, .int .i64 (x.d : Int), undef, undef, undef], defers := [] })
    (fun x W => W.alloc (.cells #[.int .i64 x.D.kind, .int .i64 x.D.num, .string x.D.name, x.v] 30)) (fun x W => (Below.refl _ _).alloc (Nat.le_refl _) _) ?assign ?body ?done ?stop
  case assign =>
    rintro l pre ⟨D, d, v⟩ W K ⟨_, hxr, _⟩ hK
    obtain ⟨a, c, hv, _⟩ := row_eq.1 hxr
    have hv : v = .slice a D.len c := hv
    subst hv
    simp only [wenc, Nd.val]
    gi_wp2
    exact hK
  case body =>
    rintro l pre ⟨D, d, v⟩ W1 W3 r hi hz ⟨⟨rest, hcame⟩, hxr, hxf⟩ hW3 hi3
    obtain ⟨av, cv, hv, _⟩ := row_eq.1 hxr
    have hv : v = .slice av D.len cv := hv
    subst hv
    have hcame : pre.map key ++ (D, d) :: rest = T.pre 0 := hcame
    obtain ⟨hk1, hk29⟩ := next_kind HKD.out hcame (fun q hq => by obtain ⟨x, hx, rfl⟩ := List.mem_map.1 hq; exact hi.ok x hx)
    have hk1 : 1 ≤ D.kind := hk1
    have hk29 : D.kind ≤ 29 := hk29
    obtain ⟨k, hk⟩ : ∃ k : Nat, D.kind = (k : Int) := ⟨D.kind.toNat, by omega⟩
    have qr := hi3.res.cell
    have qrf := hi3.res.frozen
    have hbz : W3.heap.size = W1.heap.size + 1 := by rw [hW3]; simp
    have hbx : W3.heap[W1.heap.size]? = some (.cells #[.int .i64 D.kind, .int .i64 D.num, .string D.name, .slice av D.len cv] 30) := by
      rw [hW3, World.putObj_heap_other (by omega)]; exact World.alloc_heap_new W1 _
    have x0 : W3.cell? ⟨W1.heap.size, 0, none⟩ = some (.int .i64 D.kind) := (cell_of_row _ _ 0 _ _ (0, 0) hbx).trans rfl
    have x1 : W3.cell? ⟨W1.heap.size, 1, none⟩ = some (.int .i64 D.num) := (cell_of_row _ _ 1 _ _ (0, 0) hbx).trans rfl
    have x2 : W3.cell? ⟨W1.heap.size, 2, none⟩ = some (.string D.name) := (cell_of_row _ _ 2 _ _ (0, 0) hbx).trans rfl
    have x3 : W3.cell? ⟨W1.heap.size, 3, none⟩ = some (.slice av D.len cv) := (cell_of_row _ _ 3 _ _ (0, 0) hbx).trans rfl
    have hz1 := hi.size
    have HBAD : Hid (fitB D = false → implB T = false) := fun h => impl_unfit hcame h
    have HI := hid_mk hi3
    have HNF := hid_mk (nodefits_any D k hk (by omega) W3 (.slice av D.len cv) w.heap.size hxf hi3.below.size (by omega) (row_below hi3.below (Nat.le_refl _) hxr) (tabs_below HT.out hi3.below))
    have HOK := hid_mk hi.ok
    unfold Nd.val at HNF
    have hzi := HI.out.size
    clear hcame hxr hxf hi hi3 hW3 hI0 hIU hXU c0 c1 c2 c3 c4 hbx hk hk1 hk29
    cases hfb : fitB D
    · have HB2 := hid_mk (HBAD.out hfb)
      gi_wp2_with ((refine ⟨trivial, ?_⟩; gi_at_call 24; refine (CallsIn.inRound l (callsIn_wide.2 HNF.out)).mono ?_; rw [hfb]; rintro e w' ⟨rfl, hb3⟩; have hz3 := hb3.size; have B3 := hid_mk (HI.out.below.trans (hb3.mono (by omega))); have R3 := hid_mk (show Boxed w' (w.heap.size + 1) 4 (.bool false) from (hb3.block _ (by omega)).trans HI.out.res); have K3 := hid_mk (keeps_below hb3); have qr3 := R3.out.cell; have qf3 := R3.out.frozen; clear hb3))
      refine ⟨K3.out.trans (KeepsOthers.setCell _ _ _), rfl, B3.out.setCell (p := ⟨w.heap.size + 1, 0, none⟩) (by show w.heap.size ≤ w.heap.size + 1; omega) _, R3.out.set (.bool false), HB2.out, ?_⟩
      simp [World.setCell]; omega
    · gi_wp2_with ((refine ⟨trivial, ?_⟩; gi_at_call 24; refine (CallsIn.inRound l (callsIn_wide.2 HNF.out)).mono ?_; rw [hfb]; rintro e w' ⟨rfl, hb3⟩; have hz3 := hb3.size; have B3 := hid_mk (HI.out.below.trans (hb3.mono (by omega))); have R3 := hid_mk (show Boxed w' (w.heap.size + 1) 4 (.bool false) from (hb3.block _ (by omega)).trans HI.out.res); have K3 := hid_mk (keeps_below hb3); have F3 : Hid (KeptF (fun k => False) W3 w') := ⟨hb3.size, fun k hk _ => hb3.block k hk⟩; clear hb3))
      refine ⟨K3.out, F3.out, B3.out, R3.out, ?_, by omega⟩
      intro x hx
      rcases List.mem_append.1 hx with hx | hx
      · exact HOK.out x hx
      · rw [List.mem_singleton.1 hx]; exact hfb
  case done =>
    rintro D xs W hD hS hi hK
    have HG : Hid (implB T = true) := impl_all HKD.out HMB.out (fun q hq => by rw [← hS] at hq; obtain ⟨x, hx, rfl⟩ := List.mem_map.1 hq; exact hi.ok x hx)
    have qr := hi.res.cell
    have qrf := hi.res.frozen
    have HI := hid_mk hi
    have HK := hid_mk hK
    clear hS hi hK hI0 hIU hXU c0 c1 c2 c3 c4
    gi_wp2
    have h := HI.out
    have r0 := h.res.set (.bool true)
    have hK3 : (W.setCell ⟨w.heap.size + 1, 0, none⟩ (.bool true)).heap[D]? = some (.deferred (some [])) := (Below.heap_setCell _ _ _ _ (by show D ≠ w.heap.size + 1; omega)).trans HK.out
    have hb3 := h.below.setCell (p := ⟨w.heap.size + 1, 0, none⟩) (by show w.heap.size ≤ w.heap.size + 1; omega) (.bool true)
    revert r0 hK3 hb3
    generalize W.setCell ⟨w.heap.size + 1, 0, none⟩ (.bool true) = X
    intro r0 hK3 hb3
    refine ⟨by simp, .inl ⟨_, _, rfl, run_takeDeferred hK3, ?_⟩⟩
    have gp := grownBy_putObj' X D (.deferred none)
    have p0 := (r0.kept gp (fun e => by have := Option.some.inj e; omega)).cell
    refine ⟨.bool true, by simp [results, Tryz.results13, go_sem, p0], ret_bool HG.out.symm, ?_⟩
    exact hb3.grown gp (by have := hb3.size; omega) (fun k e => by have := Option.some.inj e; omega)
  case stop =>
    rintro D c pre W hD _ hx hK
    obtain rfl := hx.ret
    have hb3 := hx.below
    have r0 := hx.res
    have HO := hid_mk hx.bad
    clear hx hI0 hIU hXU c0 c1 c2 c3 c4
    gi_wp2
    refine ⟨by simp, .inl ⟨_, _, rfl, run_takeDeferred hK, ?_⟩⟩
    have gp := grownBy_putObj' W D (.deferred none)
    have p0 := (r0.kept gp (fun e => by have := Option.some.inj e; omega)).cell
    refine ⟨.bool false, by simp [results, Tryz.results13, go_sem, p0], ret_bool HO.out.symm, ?_⟩
    exact hb3.grown gp (by have := hb3.size; omega) (fun k e => by have := Option.some.inj e; omega)
end Go.Proofs.YtacamenjijlemaaGreatDoor
