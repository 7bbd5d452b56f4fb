import Derived.Test.YteaocammohcgoaaGreatDoorVKaWalk
import Derived.Test.YteaocammohcgoaaGreatDoorVKcA
set_option linter.unusedVariables false
set_option maxHeartbeats 16000000
set_option maxRecDepth 100000
namespace Go.Proofs.YteaocammohcgoaaGreatDoor
open Go.RowKit
variable {G : Prop}
theorem bF0 (h : G := by
 show (!ao s && aR s && decide (n = 0) && aK (fun i => fg (kk i) && g i) (fun i => gJ (kk i) && g i) kk len ⟨#[101]⟩) = (decide (n = 0) && aR s && aY kk len 1 [101] 0 && aG g len)
 rw [jX, kY]
 simp only [show (101 : UInt8).toNat = 101 from rfl, Cb, cq]
 by_cases hl : len = 1
 ·subst hl
  simp only [aG, decide_true, Bool.true_and]
  have dE := rL s
  cases dn : aR s
  ·cases decide (n = 0) <;> cases ao s <;> rfl
  rw [dE dn]
  cases decide (n = 0) <;> cases fg (kk 0) <;> cases g 0 <;> rfl
 ·simp [hl]) : G := h
theorem bF1 (h : G := by
 show (ao s && decide (n = 0) && aK (fun i => fg (kk i) && g i) (fun i => gJ (kk i) && g i) kk len ⟨#[99]⟩) = (decide (n = 0) && ao s && aY kk len 1 [99] 0 && aG g len)
 rw [jX, kY]
 simp only [show (99 : UInt8).toNat = 99 from rfl, ofC, cq]
 by_cases hl : len = 1
 ·subst hl
  simp only [aG]
  have hc := Uw (kk 0)
  cases hx : decide (kk 0 = 25)
  ·exact OS
  ·rw [hc hx]
   exact OS
 ·simp [hl]) : G := h
theorem bF2 (h : G := by
 show (ao s && decide (n = 0) && aK (fun i => fg (kk i) && g i) (fun i => gJ (kk i) && g i) kk len ⟨#[101]⟩) = (decide (n = 0) && ao s && aY kk len 1 [101] 0 && aG g len)
 rw [jX, kY]
 simp only [show (101 : UInt8).toNat = 101 from rfl, Cb, cq]
 by_cases hl : len = 1
 ·subst hl
  simp only [aG, decide_true, Bool.true_and]
  cases decide (n = 0) <;> cases ao s <;> cases fg (kk 0) <;> cases g 0 <;> rfl
 ·simp [hl]) : G := h
theorem bF3 (h : G := by
 cases aR T.name <;> cases (decide (0 ≤ T.num) && decide (T.num ≤ 3)) <;> cases decide (1 ≤ m + 1) <;> cases aG (fun i => decide (T.kk i = 3)) m <;> cases aG (fun i => eH (T.kids i)) m <;> cases eH (T.kids m) <;> rfl) : G := h
theorem bF4 (h : G := by
 show (ao s && decide (n = 0) && decide (len = 0)) = (decide (n = 0) && ao s && aY kk len 0 [] 0 && aG g len)
 rw [iQ]
 by_cases hl : len = 0
 ·subst hl
  cases decide (n = 0) <;> cases ao s <;> rfl
 ·simp [hl]) : G := h
theorem bF5 (h : G := by
 rintro l pre ⟨D, d, v⟩ W K ⟨_, Gb, _⟩ hK
 obtain ⟨a, c, hv, _⟩ := aH.1 Gb
 have hv : v = .slice a D.len c := hv
 subst hv
 simp only [wv, Nd.val]
 gi_wp2
 exact hK) : G := h
theorem bF6 (h : G := by
 rcases len with _ | _ | n
 ·simp [aY, gI]
 ·cases h : dY (kk 0) c.toNat <;> simp [aY, gI, h]
 ·cases h : dY (kk 0) c.toNat <;> simp [aY, gI, h]) : G := h
theorem bF7 (h : G := by
 cases h : dY (kk 0) c.toNat <;> cases h' : dY (kk 1) c'.toNat <;> cases Qm : dY (kk 2) Lw.toNat <;> simp [aY, gI, h, h', Qm, h1, h2, h3, h4]) : G := h
theorem bF8 (h : G := by
 cases decide (n = 0) <;> cases ao s <;> cases fg (kk 0) <;> cases g 0 <;> cases g 1 <;> cases decide (kk 0 = 4) <;> cases gJ (kk 0) <;> rfl) : G := h
theorem bF9 (h : G := by
 cases h : dY (kk 0) 101 <;> cases h' : dY (kk 1) 98 <;> cases Qm : dY (kk 2) 111 <;> simp [aY, gI, h, h', Qm]) : G := h
theorem Xk (h : G := by
 cases h : dY (kk 0) 101 <;> cases h' : dY (kk 0) 98 <;> cases Qm : dY (kk 1) 98 <;> simp_all [aY, gI]) : G := h
theorem Xj (h : G := by
 cases h : dY (kk 0) c.toNat <;> cases h' : dY (kk 1) c'.toNat <;> simp [aY, gI, h, h', h1, h2]) : G := h
theorem OV (h : G := by
 cases decide (n = 0) <;> cases ao s <;> cases fg (kk 0) <;> cases g 0 <;> cases g 1 <;> rfl) : G := h
theorem JP (h : G := by
 exact cZ.grown gp (by have := cZ.size; omega) (fun k e => by have := Option.some.inj e; omega)) : G := h
theorem BS (h : G := by
 cases decide (n = 0) <;> cases ao s <;> cases fg (kk 0) <;> cases g 0 <;> rfl) : G := h
theorem OS (h : G := by
 cases decide (n = 0) <;> cases ao s <;> cases g 0 <;> rfl) : G := h
theorem Xi (h : G := by
 have qr := jF.res.cell
 have qrf := jF.res.frozen
 have Bp : W3.heap.size = W1.heap.size + 1 := by rw [qa]; simp
 have fP : W3.heap[W1.heap.size]? = some (nO D (.slice av D.len cv)) := by
  rw [qa, World.putObj_heap_other (by omega)]; exact World.alloc_heap_new W1 _
 have x0 : W3.cell? ⟨W1.heap.size, 0, none⟩ = some (.int .i64 D.kind) := (cell_of_row _ _ 0 _ _ (0, 0) fP).trans rfl
 have x1 : W3.cell? ⟨W1.heap.size, 1, none⟩ = some (.int .i64 D.num) := (cell_of_row _ _ 1 _ _ (0, 0) fP).trans rfl
 have x2 : W3.cell? ⟨W1.heap.size, 2, none⟩ = some (.string D.name) := (cell_of_row _ _ 2 _ _ (0, 0) fP).trans rfl
 have x3 : W3.cell? ⟨W1.heap.size, 3, none⟩ = some (.slice av D.len cv) := (cell_of_row _ _ 3 _ _ (0, 0) fP).trans rfl
 first
 |clear k_F16_0
  have eT := fO.size
  have d1 : ¬ W1.heap.size = w.heap.size + 1 + 1 + 1 := by omega
  have d2 : ¬ w.heap.size + 1 + 1 + 1 = W1.heap.size := by omega
  have qH : Hid (m < ((1 + lens (pre.map key) + D.len : Nat) : Int) → js T m = false) := fun h => DQ gQ h
  have HI := aa jF
  obtain ⟨ls, th⟩ : ∃ ls, lens (pre.map key) = ls := ⟨_, rfl⟩
  have FS := aa th
  rw [th] at q dK qH
  clear th
  have QF : ∀ u : Value, Hid (KeptF (fun k => k = w.heap.size + 1 + 1 + 1) W3 (W3.setCell ⟨w.heap.size + 1 + 1 + 1, 0, none⟩ u)) := fun u => ⟨by simp [World.setCell], fun k hk hm => Below.heap_setCell _ _ _ _ hm⟩
  have hzi := HI.out.size
  clear gQ Gb PZ fO jF qa vi vh Bv c0 c1 c2 c3 c4 fP
  have TI : ((1 + ls : Nat) : Int) + (D.len : Int) = ((1 + ls + D.len : Nat) : Int) := by omega
  have HCST := aa TI
  clear TI
  by_cases hbig : m < ((1 + ls : Nat) : Int) + (D.len : Int)
  ·have jZ := aa (qH.out (by rw [← HCST.out]; exact hbig))
   gi_wp2_with (refine ⟨trivial, ?_⟩)
   refine ⟨(KeepsOthers.setCell _ _ _).trans (KeepsOthers.setCell _ _ _), rfl, (HI.out.below.setCell (p := ⟨w.heap.size + 1 + 1 + 1, 0, none⟩) (by show w.heap.size ≤ w.heap.size + 1 + 1 + 1; omega) _).setCell (p := ⟨w.heap.size + 1 + 1, 0, none⟩) (by show w.heap.size ≤ w.heap.size + 1 + 1; omega) _, ?_, jZ.out, ?_⟩
   ·have RR : ∀ u : Value, Boxed (W3.setCell ⟨w.heap.size + 1 + 1 + 1, 0, none⟩ u) (w.heap.size + 1 + 1) 4 (.bool false) := fun u => (Below.heap_setCell _ _ _ _ (by show w.heap.size + 1 + 1 ≠ w.heap.size + 1 + 1 + 1; omega)).trans HI.out.res
    exact (RR _).set (.bool false)
   ·simp [World.setCell]; omega
  ·gi_wp2_with (refine ⟨trivial, ?_⟩)
   refine ⟨KeepsOthers.setCell _ _ _, (QF _).out, HI.out.below.setCell (p := ⟨w.heap.size + 1 + 1 + 1, 0, none⟩) (by show w.heap.size ≤ w.heap.size + 1 + 1 + 1; omega) _, (Below.heap_setCell _ _ _ _ (by show w.heap.size + 1 ≠ w.heap.size + 1 + 1 + 1; omega)).trans HI.out.mst, (Below.heap_setCell _ _ _ _ (by show w.heap.size + 1 + 1 ≠ w.heap.size + 1 + 1 + 1; omega)).trans HI.out.res, ?_, ?_, by simp [World.setCell]; omega⟩
   ·rw [show lens ((pre ++ [(⟨D, d, .slice av D.len cv⟩ : hH)]).map key) = ls + D.len by rw [List.map_append, jS, FS.out]; simp [lens, key]]
    have e : (1 : Int) + (ls : Int) + (D.len : Int) = ((1 + (ls + D.len) : Nat) : Int) := by omega
    rw [← e]; exact HI.out.cnt.set _
   ·rw [show lens ((pre ++ [(⟨D, d, .slice av D.len cv⟩ : hH)]).map key) = ls + D.len by rw [List.map_append, jS, FS.out]; simp [lens, key]]
    omega
 |clear k_F16_1
  have eT := hi.size
  have qH : Hid (ko D = false → iE T = false) := fun h => xo gQ h
  have HI := aa jF
  have HNF := aa (sT D k hk (by omega) W3 (.slice av D.len cv) w.heap.size PZ jF.below.size (by omega) (ah jF.below lr Gb) (eR HT.out jF.below))
  have oY := aa hi.ok
  unfold Nd.val at HNF
  have hzi := HI.out.size
  clear gQ Gb PZ hi jF qa vi vh Bv c0 c1 c2 c3 c4 fP hk jE Nr
  cases Cj : ko D
  ·have jZ := aa (qH.out Cj)
   gi_wp2_with ((refine ⟨trivial, ?_⟩; gi_at_call 28; refine (CallsIn.inRound l (callsIn_wide.2 HNF.out)).mono ?_; rw [Cj]; rintro e w' ⟨rfl, cZ⟩; have Cd := cZ.size; have B3 := aa (HI.out.below.trans (cZ.mono (by omega))); have R3 := aa (show Boxed w' (w.heap.size + 1) 4 (.bool false) from (cZ.block _ (by omega)).trans HI.out.res); have K3 := aa (oB cZ); have qr3 := R3.out.cell; have qf3 := R3.out.frozen; clear cZ))
   refine ⟨K3.out.trans (KeepsOthers.setCell _ _ _), rfl, B3.out.setCell (p := ⟨w.heap.size + 1, 0, none⟩) (by show w.heap.size ≤ w.heap.size + 1; omega) _, R3.out.set (.bool false), jZ.out, ?_⟩
   simp [World.setCell]; omega
  ·gi_wp2_with ((refine ⟨trivial, ?_⟩; gi_at_call 28; refine (CallsIn.inRound l (callsIn_wide.2 HNF.out)).mono ?_; rw [Cj]; rintro e w' ⟨rfl, cZ⟩; have Cd := cZ.size; have B3 := aa (HI.out.below.trans (cZ.mono (by omega))); have R3 := aa (show Boxed w' (w.heap.size + 1) 4 (.bool false) from (cZ.block _ (by omega)).trans HI.out.res); have K3 := aa (oB cZ); have F3 : Hid (KeptF (fun k => False) W3 w') := ⟨cZ.size, fun k hk _ => cZ.block k hk⟩; clear cZ))
   refine ⟨K3.out, F3.out, B3.out, R3.out, ?_, by omega⟩
   intro x hx
   rcases List.mem_append.1 hx with hx | hx
   ·exact oY.out x hx
   ·rw [List.mem_singleton.1 hx]; exact Cj) : G := h
theorem Xh (h : G := by
 rintro D c pre W hD _ hx hK
 obtain rfl := hx.ret
 have cZ := hx.below
 have r0 := hx.res
 have HO := aa hx.bad
 clear hx vi vh Bv c0 c1 c2 c3 c4
 gi_wp2
 refine ⟨by simp, .inl ⟨_, _, rfl, run_takeDeferred hK, ?_⟩⟩
 have gp := grownBy_putObj' W D (.deferred none)
 have p0 := (r0.kept gp (fun e => by have := Option.some.inj e; omega)).cell
 first
 |clear k_F17_0
  refine ⟨.bool false, by simp [results, Tryz.results27, go_sem, p0], aw HO.out.symm, ?_⟩
  exact JP
 |clear k_F17_1
  refine ⟨.bool false, by simp [results, Tryz.results16, go_sem, p0], aw HO.out.symm, ?_⟩
  exact JP) : G := h
theorem Xg (h : G := by
 intro r0 IX cZ
 refine ⟨by simp, .inl ⟨_, _, rfl, run_takeDeferred IX, ?_⟩⟩
 have gp := grownBy_putObj' X D (.deferred none)
 have p0 := (r0.kept gp (fun e => by have := Option.some.inj e; omega)).cell
 first
 |clear k_F18_0
  refine ⟨.bool true, by simp [results, Tryz.results27, go_sem, p0], aw HG.out.symm, ?_⟩
  exact JP
 |clear k_F18_1
  refine ⟨.bool true, by simp [results, Tryz.results16, go_sem, p0], aw HG.out.symm, ?_⟩
  exact JP) : G := h
section
open Go.RowKit Go.Shelf
attribute [local go_sem] Oper.semAt_some
theorem oB {A C : World} (h : Below A.heap.size A C) : KeepsOthers A C := ⟨h.size, fun k o ho _ => (h.block k (Array.getElem?_eq_some_iff.1 ho).1).trans ho⟩
def js (T : Nd) (m : Int) : Bool := decide ((T.size : Int) ≤ m)
theorem DQ {T : Nd} {m : Int} {A B : List (Nd × Nat)} {p : Nd × Nat} (h : A ++ p :: B = T.pre 0) (hb : m < ((1 + lens A + p.1.len : Nat) : Int)) : js T m = false := by
 have hs := jR T 0
 rw [← h, jS] at hs
 have : lens (p :: B) = p.1.len + lens B := by simp [lens]
 unfold js
 rw [decide_eq_false_iff_not]
 omega
theorem AU {T : Nd} {m : Int} (h : ((1 + lens (T.pre 0) : Nat) : Int) ≤ m) : js T m = true := by
 have hs := jR T 0
 unfold js
 rw [decide_eq_true_eq]
 omega
structure MoI (w : World) (m : Int) (pre : List hH) (W : World) : Prop where
 below : Below w.heap.size w W
 mst : Boxed W (w.heap.size + 1) 3 (.int .i64 m)
 res : Boxed W (w.heap.size + 1 + 1) 4 (.bool false)
 cnt : Boxed W (w.heap.size + 1 + 1 + 1) 3 (.int .i64 ((1 + lens (pre.map key) : Nat) : Int))
 few : ((1 + lens (pre.map key) : Nat) : Int) ≤ m
 size : w.heap.size + 4 ≤ W.heap.size
structure MoX (w : World) (T : Nd) (m : Int) (c : Code) (W : World) : Prop where
 ret : c = .ret
 below : Below w.heap.size w W
 res : Boxed W (w.heap.size + 1 + 1) 4 (.bool false)
 bad : js T m = false
 size : w.heap.size + 4 ≤ W.heap.size
theorem DR (T : Nd) (m : Int) (w : World) (u : Value) (hi : Nat) (hf : T.Fine) (dF : hi ≤ w.heap.size) (hr : Row 0 hi w T u) (hc : T.cost ≤ 1048576) (S7 : 1 ≤ m) (Gd : m ≤ 1000000) :
    Calls Tryz.prog 27 #[T.val u, .int .i64 m] w fun e w' => e = .returned (.bool (js T m)) ∧ Below w.heap.size w w' := by
  obtain ⟨au, cu, hu, _⟩ := aH.1 hr
  subst hu
  refine (callsIn_wide (n := 3)).1 ?_
  refine callsIn_of_wp_marks Tryz.func27 rfl trivial ?_ rfl
  unfold Nd.val
  simp only [Tryz.ntmps27, List.size_toArray, List.length_cons, List.length_nil, Nat.reduceAdd, Nat.reduceSub, Array.replicate_succ, Array.replicate_zero, List.push_toArray, List.append_toArray, List.nil_append, List.cons_append]
  gi_wp2_with ((refine ⟨trivial, ?_⟩; gi_at_call 25; refine (callsIn_wide.2 (nU _ _ _ _ _ _ _)).mono ?_; rintro e w' ⟨rfl, rfl⟩))
  obtain ⟨V, hV⟩ : ∃ V, (((((((w.alloc (nO T (.slice au T.len cu))).alloc (.cells #[.int .i64 m] 3)).alloc (.cells #[.bool false] 4)).alloc (.cells #[.int .i64 1] 3)).alloc (nO T (.slice au T.len cu))).alloc (nO T (.slice au T.len cu))).alloc (.cells #[.func (.func 52) #[] #[]] 83)) = V := ⟨_, rfl⟩
  have b8 : V.heap.size = w.heap.size + 7 := by rw [← hV]; simp
  have ja : Below w.heap.size w V := by
    rw [← hV]
    exact (((((((Below.refl _ w).alloc lr _).alloc (by simp) _).alloc (by simp; omega) _).alloc (by simp; omega) _).alloc (by simp; omega) _).alloc (by simp; omega) _).alloc (by simp; omega) _
  have c0 : V.cell? ⟨w.heap.size + 1 + 1 + 1 + 1 + 1, 0, none⟩ = some (.int .i64 T.kind) := by rw [← hV]; simp [go_sem]
  have c1 : V.cell? ⟨w.heap.size + 1 + 1 + 1 + 1 + 1, 1, none⟩ = some (.int .i64 T.num) := by rw [← hV]; simp [go_sem]
  have c2 : V.cell? ⟨w.heap.size + 1 + 1 + 1 + 1 + 1, 2, none⟩ = some (.string T.name) := by rw [← hV]; simp [go_sem]
  have c3 : V.cell? ⟨w.heap.size + 1 + 1 + 1 + 1 + 1, 3, none⟩ = some (.slice au T.len cu) := by rw [← hV]; simp [go_sem]
  have c4 : V.cell? ⟨w.heap.size + 1 + 1 + 1 + 1 + 1 + 1, 0, none⟩ = some (.func (.func 52) #[] #[]) := by rw [← hV]; simp [go_sem]
  have b1 := Boxed.new (w.alloc (nO T (.slice au T.len cu))) 3 (.int .i64 m)
  have b2 := Boxed.new ((w.alloc (nO T (.slice au T.len cu))).alloc (.cells #[.int .i64 m] 3)) 4 (.bool false)
  have b3 := Boxed.new (((w.alloc (nO T (.slice au T.len cu))).alloc (.cells #[.int .i64 m] 3)).alloc (.cells #[.bool false] 4)) 3 (.int .i64 1)
  simp only [World.size_alloc] at b1 b2 b3
  have vi : MoI w m [] V := by
    refine ⟨ja, ?_, ?_, ?_, by simp [lens]; omega, by omega⟩
    · rw [← hV]; exact ((((b1.alloc _).alloc _).alloc _).alloc _).alloc _
    · rw [← hV]; exact (((b2.alloc _).alloc _).alloc _).alloc _
    · rw [← hV]; exact ((b3.alloc _).alloc _).alloc _
  have vh : jA V.heap.size (MoI w m) := fun pre A C h hb => by
    have hz := h.size
    exact ⟨h.below.trans (hb.mono (by omega)), (hb.block _ (by omega)).trans h.mst, (hb.block _ (by omega)).trans h.res, (hb.block _ (by omega)).trans h.cnt, h.few, by have := hb.size; omega⟩
  have Bv : ∀ c, jA V.heap.size (fun (_ : List hH) W => MoX w T m c W) := fun c pre A C h hb => by
    have hz := h.size
    exact ⟨h.ret, h.below.trans (hb.mono (by omega)), (hb.block _ (by omega)).trans h.res, h.bad, by have := hb.size; omega⟩
  rw [hV]
  clear hV b1 b2 b3
  have hn := T.fine_len hf
  have Iw := aO hr lr dF
  refine dX (α := hH) (encs := wv) (S := BT T) (Sp := fun _ => True) (Came := zJ T w.heap.size w) (mine := fun k => k = w.heap.size + 1 + 1 + 1) rfl (by omega) (gf := 75) (lb := #[.pointer (some ⟨w.heap.size + 1 + 1 + 1 + 1 + 1, 0, none⟩), .pointer (some ⟨w.heap.size + 1 + 1 + 1 + 1 + 1 + 1, 0, none⟩)]) rfl trivial (enters_of Tryz.func75 (by kernel_rfl) rfl)
    (fun l J Jx W EV wh hJ hJx EX hY h0 => by
      have bM : ∀ b o, b < V.heap.size → W.cell? ⟨b, o, none⟩ = V.cell? ⟨b, o, none⟩ := fun b o hb => wh.cell (p := ⟨b, o, none⟩) hb
      exact sH 2 (by omega) T (.slice au T.len cu) w.heap.size V.heap.size (w.heap.size + 1 + 1 + 1 + 1 + 1) (w.heap.size + 1 + 1 + 1 + 1 + 1 + 1) l (fun k => k = w.heap.size + 1 + 1 + 1) J Jx w W hf hc EV (by omega) (by omega) (by omega) (fun k hk => by omega) (fun k hk => ((wh.block k (by omega)).trans (ja.block k hk))) Iw hJ EX hY h0
        ((bM _ _ (by omega)).trans c0) ((bM _ _ (by omega)).trans c1) ((bM _ _ (by omega)).trans c2) ((bM _ _ (by omega)).trans c3) ((bM _ _ (by omega)).trans c4))
    (fun _ => rfl) (MoI w m) (fun c _ W => MoX w T m c W) vh Bv vi
    (fun x W => { tmps := #[.agg #[.int .i64 T.kind, .int .i64 T.num, .string T.name, .slice au T.len cu], .int .i64 m, .pointer (some ⟨w.heap.size, 0, none⟩), .pointer (some ⟨w.heap.size + 1, 0, none⟩), .pointer (some ⟨w.heap.size + 1 + 1, 0, none⟩), .pointer (some ⟨w.heap.size + 1 + 1 + 1, 0, none⟩), .pointer (some ⟨W.heap.size, 0, none⟩), .agg #[.int .i64 T.kind, .int .i64 T.num, .string T.name, .slice au T.len cu], .func (.func 75) #[] #[.pointer (some ⟨w.heap.size + 1 + 1 + 1 + 1 + 1, 0, none⟩), .pointer (some ⟨w.heap.size + 1 + 1 + 1 + 1 + 1 + 1, 0, none⟩)], x.D.val x.v, .int .i64 (x.d : Int), undef, undef, undef, undef, undef, undef, undef, undef], defers := [] })
    (fun x W => W.alloc (.cells #[.int .i64 x.D.kind, .int .i64 x.D.num, .string x.D.name, x.v] 25)) (fun x W => bA) ?assign ?body ?done ?stop
  case assign =>
    exact bF5
  case body =>
    rintro l pre ⟨D, d, v⟩ W1 W3 r fO hz ⟨⟨rest, gQ⟩, Gb, PZ⟩ qa jF
    obtain ⟨av, cv, hv, _⟩ := aH.1 Gb
    have hv : v = .slice av D.len cv := hv
    subst hv
    have gQ : pre.map key ++ (D, d) :: rest = T.pre 0 := gQ
    have hlen : D.len ≤ 1048576 + 1 := by
      have h1 := jR T 0
      rw [← gQ, jS] at h1
      have h2 : lens ((D, d) :: rest) = D.len + lens rest := by simp [lens]
      have := T.size_cost
      omega
    have dK := fO.few
    have q := jF.cnt.cell
    have qf := jF.cnt.frozen
    have qm := jF.mst.cell
    have k_F16_0 := kk
    exact Xi
  case done =>
    rintro D xs W hD hS fO hK
    have HG : Hid (js T m = true) := AU (by have := fO.few; rw [hS] at this; exact this)
    have qr := fO.res.cell
    have qrf := fO.res.frozen
    have HI := aa fO
    have HK := aa hK
    clear hS fO hK vi vh Bv c0 c1 c2 c3 c4
    gi_wp2
    have h := HI.out
    have r0 := h.res.set (.bool true)
    have IX : (W.setCell ⟨w.heap.size + 1 + 1, 0, none⟩ (.bool true)).heap[D]? = some (.deferred (some [])) := (Below.heap_setCell _ _ _ _ (by show D ≠ w.heap.size + 1 + 1; omega)).trans HK.out
    have cZ := h.below.setCell (p := ⟨w.heap.size + 1 + 1, 0, none⟩) (by show w.heap.size ≤ w.heap.size + 1 + 1; omega) (.bool true)
    revert r0 IX cZ
    generalize W.setCell ⟨w.heap.size + 1 + 1, 0, none⟩ (.bool true) = X
    have k_F18_0 := kk
    exact Xg
  case stop =>
    have k_F17_0 := kk
    exact Xh
end
section
open Go.RowKit Go.Shelf
attribute [local go_sem] Oper.semAt_some
structure TrI (w w2 : World) (pre : List hH) (W : World) : Prop where
 below : Below w.heap.size w W
 res : Boxed W (w.heap.size + 1) 4 (.bool false)
 ok : ∀ x ∈ pre, ko x.D = true
 size : w2.heap.size + 3 ≤ W.heap.size
structure TrX (w w2 : World) (T : Nd) (c : Code) (W : World) : Prop where
 ret : c = .ret
 below : Below w.heap.size w W
 res : Boxed W (w.heap.size + 1) 4 (.bool false)
 bad : iE T = false
 size : w2.heap.size + 3 ≤ W.heap.size
theorem Eg {T : Nd} (h : js T 600 = false) : iE T = false := by
 unfold js at h
 have h : ¬ ((T.size : Int) ≤ 600) := by simpa using h
 have h6 : ¬ T.size ≤ 600 := by omega
 unfold iE
 simp [h6]
theorem xo {T : Nd} {A B : List (Nd × Nat)} {p : Nd × Nat} (h : A ++ p :: B = T.pre 0) (hb : ko p.1 = false) : iE T = false := Eh h (.inr hb)
theorem Ei {T : Nd} (hT : T.kind = 1) (h6 : js T 600 = true) (hA : ∀ q ∈ T.pre 0, ko q.1 = true) : iE T = true := by
 unfold js at h6
 have h6 : (T.size : Int) ≤ 600 := by simpa using h6
 refine Bc hT ?_ hA
 have := jR T 0
 omega
theorem rP (T : Nd) (w : World) (u : Value) (hf : T.Fine) (hr : Row 0 w.heap.size w T u) (hc : T.cost ≤ 1048576) (ht : qD w) :
    Calls Tryz.prog 16 #[T.val u] w fun e w' => e = .returned (.bool (iE T)) ∧ Below w.heap.size w w' := by
  obtain ⟨au, cu, hu, _⟩ := aH.1 hr
  subst hu
  have bN := ht.lt
  by_cases hk : T.kind = 1
  case neg =>
    have HO : Hid (iE T = false) := by unfold Hid iE; simp [hk]
    have EK : (T.kind != 1) = true := by rw [bne_iff_ne]; exact hk
    clear hk hr ht
    unfold Nd.val
    generalize T.kind = tk at *
    go_enter Tryz.func16, Tryz.ntmps16
    go_wp2
    refine bodyPost_ret (v := .bool false) (by simp [results, Tryz.results16, go_sem]) rfl ⟨aw HO.out.symm, ?_⟩
    exact (bA).alloc (by simp) _
  have EK : (T.kind != 1) = false := by simp [hk]
  have gr := aa hk
  clear hk
  have HM : Hid (∀ (W : World), Below w.heap.size w W → Calls Tryz.prog 27 #[T.val (.slice au T.len cu), .int .i64 600] W fun e w' => e = .returned (.bool (js T 600)) ∧ Below W.heap.size W w') :=
    fun W hb => DR T 600 W _ w.heap.size hf hb.size (ah hb lr hr) hc (by omega) (by omega)
  unfold Nd.val at HM
  obtain ⟨W0, NM⟩ : ∃ W0, (w.alloc (nO T (.slice au T.len cu))).alloc (.cells #[.bool false] 4) = W0 := ⟨_, rfl⟩
  have Qt : Hid (W0.heap.size = w.heap.size + 2) := by unfold Hid; rw [← NM]; simp
  have fp : Hid (Below w.heap.size w W0) := by rw [← NM]; exact (bA).alloc (by simp) _
  have dP : Hid (W0.cell? ⟨w.heap.size, 0, none⟩ = some (.int .i64 T.kind) ∧ W0.cell? ⟨w.heap.size, 1, none⟩ = some (.int .i64 T.num) ∧ W0.cell? ⟨w.heap.size, 2, none⟩ = some (.string T.name) ∧ W0.cell? ⟨w.heap.size, 3, none⟩ = some (.slice au T.len cu) ∧ Boxed W0 (w.heap.size + 1) 4 (.bool false)) := by
    have b1 := Boxed.new (w.alloc (nO T (.slice au T.len cu))) 4 (.bool false)
    simp only [World.size_alloc] at b1
    unfold Hid
    rw [← NM]
    exact ⟨by simp [go_sem], by simp [go_sem], by simp [go_sem], by simp [go_sem], b1⟩
  have jn := aa NM
  clear NM
  cases hmb : js T 600
  case false =>
    have HO := aa (Eg hmb)
    unfold Nd.val
    clear hr ht
    go_enter Tryz.func16, Tryz.ntmps16
    go_wp2_with (go_at_call 27; rw [jn.out]; refine (HM.out _ fp.out).mono ?_; rw [hmb]; rintro e w2 ⟨rfl, ba⟩; obtain ⟨q0, q1, q2, q3, qb⟩ := dP.out; have R2 := aa (show Boxed w2 (w.heap.size + 1) 4 (.bool false) from (ba.block _ (by have := Qt.out; omega)).trans qb); have jZ := aa (fp.out.trans (ba.mono (by have := Qt.out; omega))); have r1 := R2.out.cell; have r2 := R2.out.frozen; clear ba qb)
    refine bodyPost_ret (v := .bool false) (by have := (R2.out.set (.bool false)).cell; simp [results, Tryz.results16, go_sem, this]) rfl ⟨aw HO.out.symm, ?_⟩
    exact jZ.out.setCell (p := ⟨w.heap.size + 1, 0, none⟩) (by show w.heap.size ≤ w.heap.size + 1; omega) _
  have HMB := aa hmb
  refine (callsIn_wide (n := 3)).1 ?_
  refine callsIn_of_wp_marks Tryz.func16 rfl trivial ?_ rfl
  unfold Nd.val
  simp only [Tryz.ntmps16, List.size_toArray, List.length_cons, List.length_nil, Nat.reduceAdd, Nat.reduceSub, Array.replicate_succ, Array.replicate_zero, List.push_toArray, List.append_toArray, List.nil_append, List.cons_append]
  gi_wp2_with (refine ⟨trivial, ?_⟩; first
    | (gi_at_call 27; rw [jn.out]; refine (callsIn_wide.2 (HM.out _ fp.out)).mono ?_; rw [hmb]; rintro e w2 ⟨rfl, ba⟩; obtain ⟨q0, q1, q2, q3, qb⟩ := dP.out; rw [← ba.cell (p := ⟨w.heap.size, _, none⟩) (show w.heap.size < W0.heap.size by have := Qt.out; omega)] at q0 q1 q2 q3; have R2 := aa (show Boxed w2 (w.heap.size + 1) 4 (.bool false) from (ba.block _ (by have := Qt.out; omega)).trans qb); have jZ := aa (fp.out.trans (ba.mono (by have := Qt.out; omega))); have HZ2 := aa (show w.heap.size + 2 ≤ w2.heap.size by have := ba.size; have := Qt.out; omega); clear ba qb)
    | (gi_at_call 25; refine (callsIn_wide.2 (nU _ _ _ _ _ _ _)).mono ?_; rintro e w' ⟨rfl, rfl⟩))
  obtain ⟨V, hV⟩ : ∃ V, ((w2.alloc (nO T (.slice au T.len cu))).alloc (nO T (.slice au T.len cu))).alloc (.cells #[.func (.func 52) #[] #[]] 83) = V := ⟨_, rfl⟩
  have b8 : V.heap.size = w2.heap.size + 3 := by rw [← hV]; simp
  have ed := HZ2.out
  have TS : Below w2.heap.size w2 V := by
    rw [← hV]
    exact (((Below.refl _ w2).alloc lr _).alloc (by simp) _).alloc (by simp; omega) _
  have ja : Below w.heap.size w V := jZ.out.trans (TS.mono (by omega))
  have c0 : V.cell? ⟨w2.heap.size + 1, 0, none⟩ = some (.int .i64 T.kind) := by rw [← hV]; simp [go_sem]
  have c1 : V.cell? ⟨w2.heap.size + 1, 1, none⟩ = some (.int .i64 T.num) := by rw [← hV]; simp [go_sem]
  have c2 : V.cell? ⟨w2.heap.size + 1, 2, none⟩ = some (.string T.name) := by rw [← hV]; simp [go_sem]
  have c3 : V.cell? ⟨w2.heap.size + 1, 3, none⟩ = some (.slice au T.len cu) := by rw [← hV]; simp [go_sem]
  have c4 : V.cell? ⟨w2.heap.size + 1 + 1, 0, none⟩ = some (.func (.func 52) #[] #[]) := by rw [← hV]; simp [go_sem]
  have vi : TrI w w2 [] V := ⟨ja, (TS.block _ (by omega)).trans R2.out, (fun x hx => by cases hx), by omega⟩
  have vh : jA V.heap.size (TrI w w2) := fun pre A C h hb => by
    have hz := h.size
    exact ⟨h.below.trans (hb.mono (by omega)), (hb.block _ (by omega)).trans h.res, h.ok, by have := hb.size; omega⟩
  have Bv : ∀ c, jA V.heap.size (fun (_ : List hH) W => TrX w w2 T c W) := fun c pre A C h hb => by
    have hz := h.size
    exact ⟨h.ret, h.below.trans (hb.mono (by omega)), (hb.block _ (by omega)).trans h.res, h.bad, by have := hb.size; omega⟩
  rw [hV]
  clear hV q0 q1 q2 q3
  have HT := aa ht
  have hn := T.fine_len hf
  refine dX (α := hH) (encs := wv) (S := BT T) (Sp := fun _ => True) (Came := zJ T w.heap.size w) (mine := fun k => False) rfl (by omega) (gf := 75) (lb := #[.pointer (some ⟨w2.heap.size + 1, 0, none⟩), .pointer (some ⟨w2.heap.size + 1 + 1, 0, none⟩)]) rfl trivial (enters_of Tryz.func75 (by kernel_rfl) rfl)
    (fun l J Jx W EV wh hJ hJx EX hY h0 => by
      have bM : ∀ b o, b < V.heap.size → W.cell? ⟨b, o, none⟩ = V.cell? ⟨b, o, none⟩ := fun b o hb => wh.cell (p := ⟨b, o, none⟩) hb
      exact sH 2 (by omega) T (.slice au T.len cu) w.heap.size V.heap.size (w2.heap.size + 1) (w2.heap.size + 1 + 1) l (fun k => False) J Jx w W hf hc EV (by omega) (by omega) (by omega) (fun k hk => hk.elim) (fun k hk => ((wh.block k (by omega)).trans (ja.block k hk))) hr hJ EX hY h0
        ((bM _ _ (by omega)).trans c0) ((bM _ _ (by omega)).trans c1) ((bM _ _ (by omega)).trans c2) ((bM _ _ (by omega)).trans c3) ((bM _ _ (by omega)).trans c4))
    (fun _ => rfl) (TrI w w2) (fun c _ W => TrX w w2 T c W) vh Bv vi
    (fun x W => { tmps := #[.agg #[.int .i64 T.kind, .int .i64 T.num, .string T.name, .slice au T.len cu], .pointer (some ⟨w.heap.size, 0, none⟩), .pointer (some ⟨w.heap.size + 1, 0, none⟩), .pointer (some ⟨W.heap.size, 0, none⟩), .pointer (some ⟨w.heap.size, 0, none⟩), .int .i64 T.kind, .bool false, .bool false, .agg #[.int .i64 T.kind, .int .i64 T.num, .string T.name, .slice au T.len cu], .bool true, .bool false, .bool false, .agg #[.int .i64 T.kind, .int .i64 T.num, .string T.name, .slice au T.len cu], .func (.func 75) #[] #[.pointer (some ⟨w2.heap.size + 1, 0, none⟩), .pointer (some ⟨w2.heap.size + 1 + 1, 0, none⟩)], x.D.val x.v, .int .i64 (x.d : Int), undef, undef, undef], defers := [] })
    (fun x W => W.alloc (.cells #[.int .i64 x.D.kind, .int .i64 x.D.num, .string x.D.name, x.v] 25)) (fun x W => bA) ?assign ?body ?done ?stop
  case assign =>
    exact bF5
  case body =>
    rintro l pre ⟨D, d, v⟩ W1 W3 r hi hz ⟨⟨rest, gQ⟩, Gb, PZ⟩ qa jF
    obtain ⟨av, cv, hv, _⟩ := aH.1 Gb
    have hv : v = .slice av D.len cv := hv
    subst hv
    have gQ : pre.map key ++ (D, d) :: rest = T.pre 0 := gQ
    obtain ⟨jE, Nr⟩ := AT gr.out gQ (fun q hq => by obtain ⟨x, hx, rfl⟩ := List.mem_map.1 hq; exact hi.ok x hx)
    have jE : 1 ≤ D.kind := jE
    have Nr : D.kind ≤ 29 := Nr
    obtain ⟨k, hk⟩ : ∃ k : Nat, D.kind = (k : Int) := ⟨D.kind.toNat, by omega⟩
    have k_F16_1 := kk
    exact Xi
  case done =>
    rintro D xs W hD hS hi hK
    have HG : Hid (iE T = true) := Ei gr.out HMB.out (fun q hq => by rw [← hS] at hq; obtain ⟨x, hx, rfl⟩ := List.mem_map.1 hq; exact hi.ok x hx)
    have qr := hi.res.cell
    have qrf := hi.res.frozen
    have HI := aa hi
    have HK := aa hK
    clear hS hi hK vi vh Bv c0 c1 c2 c3 c4
    gi_wp2
    have h := HI.out
    have r0 := h.res.set (.bool true)
    have IX : (W.setCell ⟨w.heap.size + 1, 0, none⟩ (.bool true)).heap[D]? = some (.deferred (some [])) := (Below.heap_setCell _ _ _ _ (by show D ≠ w.heap.size + 1; omega)).trans HK.out
    have cZ := h.below.setCell (p := ⟨w.heap.size + 1, 0, none⟩) (by show w.heap.size ≤ w.heap.size + 1; omega) (.bool true)
    revert r0 IX cZ
    generalize W.setCell ⟨w.heap.size + 1, 0, none⟩ (.bool true) = X
    have k_F18_1 := kk
    exact Xg
  case stop =>
    have k_F17_1 := kk
    exact Xh
end
def sm (T : Nd) (d : Nat) : Bool := (T.pre d).all fun p => ko p.1
theorem tx (T : Nd) (d : Nat) : sm T d = (ko T && aG (fun i => sm (T.kids i) (d + 1)) T.len) := by
 unfold sm
 rw [nS, List.all_cons]
 congr 1
 unfold mg
 generalize T.len = n
 induction n with
 |zero => rfl
 |succ n ih => rw [List.range_succ, List.flatMap_append, List.all_append, ih]; simp [aG]
theorem Bz (T : Nd) : ∀ d e, sm T d = sm T e := by
 induction T with
 |nil => intro d e; rfl
 |mk k n s len kids ih =>
  intro d e
  rw [tx, tx]
  congr 1
  congr 1
  funext i
  exact ih i (d + 1) (e + 1)
def eH (T : Nd) : Bool := sm T 0
theorem BA (T : Nd) : eH T = (ko T && aG (fun i => eH (T.kids i)) T.len) := by
 unfold eH
 rw [tx]
 congr 1
 congr 1
 funext i
 exact Bz _ _ _
def fg (k : Int) : Bool := decide (22 ≤ k) && decide (k ≤ 29)
def gJ (k : Int) : Bool := decide (4 ≤ k) && decide (k ≤ 21) && !decide (k = 16)
theorem twm (kk : Nat → Int) (c m d : Nat) : gI kk c (m + 1) d = if dY (kk d) c then gI kk c m (d + 1) + 1 else 0 := rfl
theorem tw0 (kk : Nat → Int) (c d : Nat) : gI kk c 0 d = 0 := rfl
theorem LY (kk : Nat → Int) (c : Nat) : ∀ (m d : Nat), decide (gI kk c m d = m) = aG (fun i => dY (kk (d + i)) c) m
 |0, d => rfl
 |m + 1, d => by
  rw [Bool.eq_iff_iff, decide_eq_true_eq, dy]
  constructor
  ·intro h i hi
   exact o4 (m := m + 1) (by omega)
  ·intro h
   exact yM h lr (.inl rfl)
theorem KB (kk : Nat → Int) (c : Nat) : ∀ (m d : Nat), gI kk c m d ≤ m
 |0, d => Nat.le_refl _
 |m + 1, d => by
  rw [twm]; split
  ·have := KB kk c m (d + 1); omega
  ·omega
theorem l5 (kk : Nat → Int) (len : Nat) (c : UInt8) : aY kk len 2 [c, 42] 0 = aG (fun i => dY (kk i) c.toNat) len := by
 have h : aY kk len 2 [c, 42] 0 = decide (0 + gI kk c.toNat (len - 0) 0 = len) := by
  simp [aY]
 rw [h]
 have := LY kk c.toNat len 0
 simp only [Nat.zero_add, Nat.sub_zero] at this ⊢
 exact this
theorem iQ (kk : Nat → Int) (len : Nat) : aY kk len 0 [] 0 = decide (len = 0) := by
 simp [aY, eq_comm]
theorem jX (kk : Nat → Int) (len : Nat) (c : UInt8) : aY kk len 1 [c] 0 = (decide (len = 1) && dY (kk 0) c.toNat) := by
 exact bF6
theorem qi (kk : Nat → Int) (len : Nat) (c c' : UInt8) (h1 : c' ≠ 63) (h2 : c' ≠ 42) : aY kk len 2 [c, c'] 0 = (decide (len = 2) && (dY (kk 0) c.toNat && dY (kk 1) c'.toNat)) := by
 rcases len with _ | _ | _ | n
 ·simp [aY, gI, h1, h2]
 ·cases h : dY (kk 0) c.toNat <;> simp [aY, gI, h, h1, h2]
 ·exact Xj
 ·exact Xj
theorem xY (kk : Nat → Int) (len : Nat) (c c' Lw : UInt8) (h1 : c' ≠ 63) (h2 : c' ≠ 42) (h3 : Lw ≠ 63) (h4 : Lw ≠ 42) : aY kk len 3 [c, c', Lw] 0 = (decide (len = 3) && (dY (kk 0) c.toNat && dY (kk 1) c'.toNat && dY (kk 2) Lw.toNat)) := by
 rcases len with _ | _ | _ | _ | n
 ·simp [aY, gI, h1, h2]
 ·cases h : dY (kk 0) c.toNat <;> simp [aY, gI, h, h1, h2, h3, h4]
 ·cases h : dY (kk 0) c.toNat <;> cases h' : dY (kk 1) c'.toNat <;> simp [aY, gI, h, h', h1, h2, h3, h4]
 ·exact bF7
 ·exact bF7
theorem vq (kk : Nat → Int) (len : Nat) (c : UInt8) : aY kk len 2 [c, 63] 0 = (decide (len = 0) || (decide (len = 1) && dY (kk 0) c.toNat)) := by
 exact bF6
theorem BE (kk : Nat → Int) (len : Nat) : aY kk len 3 [101, 63, 98] 0 = ((decide (len = 1) && dY (kk 0) 98) || (decide (len = 2) && (dY (kk 0) 101 && dY (kk 1) 98))) := by
 have hd : dY (kk 0) 101 = true → dY (kk 0) 98 = false := fun h => by simp [dY] at h ⊢; omega
 rcases len with _ | _ | _ | n
 ·simp [aY, gI]
 ·cases h : dY (kk 0) 101 <;> cases h' : dY (kk 0) 98 <;> simp_all [aY, gI]
 ·exact Xk
 ·exact Xk
theorem I3 (kk : Nat → Int) (len : Nat) : aY kk len 4 [101, 98, 111, 63] 0 = (dY (kk 0) 101 && dY (kk 1) 98 && (decide (len = 2) || (decide (len = 3) && dY (kk 2) 111))) := by
 rcases len with _ | _ | _ | _ | n
 ·simp [aY, gI]
 ·cases h : dY (kk 0) 101 <;> simp [aY, gI, h]
 ·cases h : dY (kk 0) 101 <;> cases h' : dY (kk 1) 98 <;> simp [aY, gI, h, h']
 ·exact bF9
 ·exact bF9
theorem BF (kk : Nat → Int) (len : Nat) : aY kk len 3 [112, 42, 98] 0 = (decide (1 ≤ len) && (aG (fun i => dY (kk i) 112) (len - 1) && dY (kk (len - 1)) 98)) := by
 have hd : ∀ k, dY k 112 = true → dY k 98 = false := fun k h => by simp [dY] at h ⊢; omega
 have h0 : aY kk len 3 [112, 42, 98] 0 = if gI kk 98 (min 1 (len - gI kk 112 len 0)) (gI kk 112 len 0) < 1 then false else decide (gI kk 112 len 0 + gI kk 98 (min 1 (len - gI kk 112 len 0)) (gI kk 112 len 0) = len) := by
  simp [aY]
 rw [h0]
 have hle := KB kk 112 len 0
 have te := fun i (hi : i < gI kk 112 len 0) => o4 (kk := kk) (c := 112) (m := len) (d := 0) (i := i) hi
 simp only [Nat.zero_add] at te
 have hof := fun t (h1 : ∀ i, i < t → dY (kk (0 + i)) 112 = true) (h2 : t ≤ len) (h3 : t = len ∨ dY (kk (0 + t)) 112 = false) => yM (kk := kk) (c := 112) (m := len) (t := t) (d := 0) h1 h2 h3
 simp only [Nat.zero_add] at hof
 rw [Bool.eq_iff_iff]
 generalize ht : gI kk 112 len 0 = t at *
 constructor
 ·intro h
  split at h
  ·cases h
  ·rename_i hn
   have bN : t < len := by
    rcases Nat.lt_or_ge t len with h | h
    ·exact h
    ·exfalso; apply hn; rw [show len - t = 0 by omega]; simp [gI]
   have hb : dY (kk t) 98 = true := by
    rw [show min 1 (len - t) = 0 + 1 by omega, twm] at hn
    cases hb : dY (kk t) 98 with
    |true => rfl
    |false => exfalso; apply hn; simp [hb]
   have h1 : gI kk 98 (min 1 (len - t)) t = 1 := by rw [show min 1 (len - t) = 0 + 1 by omega, twm]; simp [hb, tw0]
   rw [h1] at h
   have hl : len = t + 1 := by have := of_decide_eq_true h; omega
   subst hl
   simp only [Nat.add_sub_cancel, hb, Bool.and_true, Bool.and_eq_true, decide_eq_true_eq]
   exact ⟨by omega, eo te⟩
 ·intro h
  simp only [Bool.and_eq_true, decide_eq_true_eq] at h
  obtain ⟨h1, h2, h3⟩ := h
  have bl := dy.1 h2
  have hn : dY (kk (len - 1)) 112 = false := by
   cases hx : dY (kk (len - 1)) 112 with
   |false => rfl
   |true => rw [hd _ hx] at h3; cases h3
  have := hof (len - 1) bl (by omega) (.inr hn)
  subst this
  have hw : gI kk 98 (min 1 (len - (len - 1))) (len - 1) = 1 := by rw [show min 1 (len - (len - 1)) = 0 + 1 by omega, twm]; simp [h3, tw0]
  rw [hw]
  simp
  omega
theorem kY (e st : Nat → Bool) (kk : Nat → Int) (len : Nat) (c : UInt8) : aK e st kk len ⟨#[c]⟩ = (decide (len = 1) && cq e st kk c.toNat 0) := by
 unfold aK
 show (decide (len = 1) && (aG _ 1)) = _
 simp [aG]
theorem pC (e st : Nat → Bool) (kk : Nat → Int) (len : Nat) (c c' : UInt8) : aK e st kk len ⟨#[c, c']⟩ = (decide (len = 2) && (cq e st kk c.toNat 0 && cq e st kk c'.toNat 1)) := by
 unfold aK
 show (decide (len = 2) && (aG _ 2)) = _
 simp [aG]
theorem Di (e st : Nat → Bool) (kk : Nat → Int) (len : Nat) (c c' Lw : UInt8) : aK e st kk len ⟨#[c, c', Lw]⟩ = (decide (len = 3) && (cq e st kk c.toNat 0 && cq e st kk c'.toNat 1 && cq e st kk Lw.toNat 2)) := by
 unfold aK
 show (decide (len = 3) && (aG _ 3)) = _
 simp [aG]
section
def rhs (k n : Int) (s : ByteArray) (len : Nat) (kk : Nat → Int) (g : Nat → Bool) : Bool := qT k n && DJ k n s && aY kk len (fW k n).size (fW k n).data.toList 0 && aG g len
theorem Cb (k : Int) : dY k 101 = fg k := by simp [dY, fg]
theorem ofS (k : Int) : dY k 115 = gJ k := by simp [dY, gJ]
theorem AR (k : Int) : dY k 98 = decide (k = 4) := by simp [dY]
theorem ofC (k : Int) : dY k 99 = decide (k = 25) := by simp [dY]
theorem ofA (k : Int) : dY k 97 = (decide (k = 25) || decide (k = 29)) := by simp [dY]
theorem ofO (k : Int) : dY k 111 = (decide (k = 4) || decide (k = 10)) := by simp [dY]
theorem ofW (k : Int) : dY k 119 = decide (k = 16) := by simp [dY]
theorem ofF (k : Int) : dY k 102 = decide (k = 2) := by simp [dY]
theorem ofP (k : Int) : dY k 112 = decide (k = 3) := by simp [dY]
theorem l7 (p g : Nat → Bool) : ∀ n, aG (fun i => p i && g i) n = (aG p n && aG g n)
 |0 => rfl
 |n + 1 => by
  simp only [aG, l7 p g n]
  cases aG p n <;> cases p n <;> cases aG g n <;> cases g n <;> rfl
theorem rL (s : ByteArray) (h : aR s = true) : ao s = false := by
 unfold ao
 rw [mP]
 cases hl : s.data.toList with
 |nil =>
  have hz : s.size = 0 := by rw [← fu, hl]; rfl
  simp [aR, dt, hz] at h
 |cons => rfl
section
variable (n : Int) (s : ByteArray) (len : Nat) (kk : Nat → Int) (g : Nat → Bool)
theorem Rh : cH 22 n s len (fun i => fg (kk i) && g i) (fun i => gJ (kk i) && g i) kk = rhs 22 n s len kk g := by
 show (ao s && (decide (0 ≤ n) && decide (n ≤ 999999999999999999) && decide (len = 0))) = (decide (0 ≤ n) && decide (n ≤ 999999999999999999) && ao s && aY kk len 0 [] 0 && aG g len)
 rw [iQ]
 rcases len with _ | len <;> cases ao s <;> simp [aG]
theorem Rg : cH 23 n s len (fun i => fg (kk i) && g i) (fun i => gJ (kk i) && g i) kk = rhs 23 n s len kk g := by
 show (ao s && ((decide (n = 0) || decide (n = 1)) && decide (len = 0))) = ((decide (n = 0) || decide (n = 1)) && ao s && aY kk len 0 [] 0 && aG g len)
 rw [iQ]
 rcases len with _ | len <;> cases ao s <;> simp [aG]
theorem Rf : cH 24 n s len (fun i => fg (kk i) && g i) (fun i => gJ (kk i) && g i) kk = rhs 24 n s len kk g := by
 show (decide (n = 0) && (aR s && decide (len = 0))) = (decide (n = 0) && aR s && aY kk len 0 [] 0 && aG g len)
 rw [iQ]
 rcases len with _ | len <;> cases aR s <;> simp [aG]
theorem Re : cH 25 n s len (fun i => fg (kk i) && g i) (fun i => gJ (kk i) && g i) kk = rhs 25 n s len kk g := by
 show (decide (n = 0) && (aR s && aG (fun i => fg (kk i) && g i) len)) = (decide (n = 0) && aR s && aY kk len 2 [101, 42] 0 && aG g len)
 rw [l5, l7]
 simp only [show (101 : UInt8).toNat = 101 from rfl, Cb]
 cases aR s <;> cases aG (fun i => fg (kk i)) len <;> simp
theorem Rd : cH 26 n s len (fun i => fg (kk i) && g i) (fun i => gJ (kk i) && g i) kk = rhs 26 n s len kk g := by
 show (ao s && decide (n = 0) && (decide (len < 2) && aG (fun i => fg (kk i) && g i) len)) = (decide (n = 0) && ao s && aY kk len 2 [101, 63] 0 && aG g len)
 rw [vq]
 simp only [show (101 : UInt8).toNat = 101 from rfl, Cb]
 by_cases h0 : len = 0
 ·subst h0
  cases decide (n = 0) <;> cases ao s <;> rfl
 by_cases h1 : len = 1
 ·subst h1
  simp only [aG, decide_true, Bool.true_and]
  exact BS
 ·have h2 : ¬ len < 2 := by omega
  simp [h0, h1, h2]
theorem Rc : cH 27 n s len (fun i => fg (kk i) && g i) (fun i => gJ (kk i) && g i) kk = rhs 27 n s len kk g := by
 show (decide (n = 0) && ((s.toList == [45] || s.toList == [33]) && aK (fun i => fg (kk i) && g i) (fun i => gJ (kk i) && g i) kk len ⟨#[101]⟩)) = (decide (n = 0) && (s.toList == [45] || s.toList == [33]) && aY kk len 1 [101] 0 && aG g len)
 rw [jX, kY]
 simp only [show (101 : UInt8).toNat = 101 from rfl, Cb, cq]
 by_cases hl : len = 1
 ·subst hl
  simp only [aG, decide_true, Bool.true_and]
  cases decide (n = 0) <;> cases (s.toList == [45] || s.toList == [33]) <;> cases fg (kk 0) <;> cases g 0 <;> rfl
 ·simp [hl]
theorem Rb : cH 28 n s len (fun i => fg (kk i) && g i) (fun i => gJ (kk i) && g i) kk = rhs 28 n s len kk g := by
 show (decide (n = 0) && (decide (0 < iU s) && aK (fun i => fg (kk i) && g i) (fun i => gJ (kk i) && g i) kk len ⟨#[101, 101]⟩)) = (decide (n = 0) && decide (0 < iU s) && aY kk len 2 [101, 101] 0 && aG g len)
 rw [qi _ _ _ _ (by decide) (by decide), pC]
 simp only [show (101 : UInt8).toNat = 101 from rfl, Cb, cq]
 by_cases hl : len = 2
 ·subst hl
  simp only [aG, decide_true, Bool.true_and]
  cases decide (n = 0) <;> cases decide (0 < iU s) <;> cases fg (kk 0) <;> cases fg (kk 1) <;> cases g 0 <;> cases g 1 <;> rfl
 ·simp [hl]
theorem Q9 : cH 29 n s len (fun i => fg (kk i) && g i) (fun i => gJ (kk i) && g i) kk = rhs 29 n s len kk g := by
 exact bF2
variable (cs : Nat → Bool)
theorem rhs4 : bd 4 n s len (fun i => fg (kk i) && g i) (fun i => gJ (kk i) && g i) cs kk = rhs 4 n s len kk g := by
 show (ao s && decide (n = 0) && aG (fun i => gJ (kk i) && g i) len) = (decide (n = 0) && ao s && aY kk len 2 [115, 42] 0 && aG g len)
 rw [l5, l7]
 simp only [show (115 : UInt8).toNat = 115 from rfl, ofS]
 cases decide (n = 0) <;> cases ao s <;> cases aG (fun i => gJ (kk i)) len <;> cases aG g len <;> rfl
theorem rhs5 : bd 5 n s len (fun i => fg (kk i) && g i) (fun i => gJ (kk i) && g i) cs kk = rhs 5 n s len kk g := by
 exact bF0
theorem rhs6 : bd 6 n s len (fun i => fg (kk i) && g i) (fun i => gJ (kk i) && g i) cs kk = rhs 6 n s len kk g := by
 exact bF0
theorem rhs7 : bd 7 n s len (fun i => fg (kk i) && g i) (fun i => gJ (kk i) && g i) cs kk = rhs 7 n s len kk g := by
 show (!ao s && aR s && ((decide (n = 1) || decide (n = -1)) && decide (len = 0))) = ((decide (n = 1) || decide (n = -1)) && aR s && aY kk len 0 [] 0 && aG g len)
 rw [iQ]
 have dE := rL s
 by_cases hl : len = 0
 ·subst hl
  cases dn : aR s
  ·cases (decide (n = 1) || decide (n = -1)) <;> cases ao s <;> rfl
  rw [dE dn]
  cases (decide (n = 1) || decide (n = -1)) <;> rfl
 ·simp [hl]
theorem rhs8 : bd 8 n s len (fun i => fg (kk i) && g i) (fun i => gJ (kk i) && g i) cs kk = rhs 8 n s len kk g := by
 show (ao s && decide (n = 0) && aK (fun i => fg (kk i) && g i) (fun i => gJ (kk i) && g i) kk len ⟨#[101, 101]⟩) = (decide (n = 0) && ao s && aY kk len 2 [101, 101] 0 && aG g len)
 rw [qi _ _ _ _ (by decide) (by decide), pC]
 simp only [show (101 : UInt8).toNat = 101 from rfl, Cb, cq]
 by_cases hl : len = 2
 ·subst hl
  simp only [aG, decide_true, Bool.true_and]
  cases decide (n = 0) <;> cases ao s <;> cases fg (kk 0) <;> cases fg (kk 1) <;> cases g 0 <;> cases g 1 <;> rfl
 ·simp [hl]
theorem Rk : bd 19 n s len (fun i => fg (kk i) && g i) (fun i => gJ (kk i) && g i) cs kk = rhs 19 n s len kk g := by
 exact bF2
theorem Rj : bd 20 n s len (fun i => fg (kk i) && g i) (fun i => gJ (kk i) && g i) cs kk = rhs 20 n s len kk g := by
 exact bF2
theorem Ri : bd 21 n s len (fun i => fg (kk i) && g i) (fun i => gJ (kk i) && g i) cs kk = rhs 21 n s len kk g := by
 exact bF2
theorem Ft (k : Int) (h : (decide (k = 25) || decide (k = 29)) = true) : fg k = true := by
 simp [fg] at h ⊢; omega
theorem rhs9 : bd 9 n s len (fun i => fg (kk i) && g i) (fun i => gJ (kk i) && g i) cs kk = rhs 9 n s len kk g := by
 show (ao s && decide (n = 0) && (aK (fun i => fg (kk i) && g i) (fun i => gJ (kk i) && g i) kk len ⟨#[101]⟩ && (decide (kk 0 = 25) || decide (kk 0 = 29)))) = (decide (n = 0) && ao s && aY kk len 1 [97] 0 && aG g len)
 rw [jX, kY]
 simp only [show (101 : UInt8).toNat = 101 from rfl, show (97 : UInt8).toNat = 97 from rfl, ofA, cq]
 by_cases hl : len = 1
 ·subst hl
  simp only [aG, decide_true, Bool.true_and, if_true]
  have hc := Ft (kk 0)
  cases hx : (decide (kk 0 = 25) || decide (kk 0 = 29))
  ·exact BS
  ·rw [hc hx]
   exact OS
 ·simp [hl]
theorem Uw (k : Int) (h : decide (k = 25) = true) : fg k = true := by
 simp [fg] at h ⊢; omega
theorem yn (k : Int) (h : decide (k = 4) = true) : gJ k = true := by
 simp [gJ] at h ⊢; omega
theorem blk2 (k : Int) (h : (decide (k = 4) || decide (k = 10)) = true) : gJ k = true := by
 simp [gJ] at h ⊢; omega
theorem Rp : bd 13 n s len (fun i => fg (kk i) && g i) (fun i => gJ (kk i) && g i) cs kk = rhs 13 n s len kk g := by
 exact bF1
theorem Ro : bd 14 n s len (fun i => fg (kk i) && g i) (fun i => gJ (kk i) && g i) cs kk = rhs 14 n s len kk g := by
 exact bF1
theorem Rm : bd 17 n s len (fun i => fg (kk i) && g i) (fun i => gJ (kk i) && g i) cs kk = rhs 17 n s len kk g := by
 exact bF4
theorem Rl : bd 18 n s len (fun i => fg (kk i) && g i) (fun i => gJ (kk i) && g i) cs kk = rhs 18 n s len kk g := by
 exact bF4
theorem Rq : bd 12 n s len (fun i => fg (kk i) && g i) (fun i => gJ (kk i) && g i) cs kk = rhs 12 n s len kk g := by
 show (ao s && decide (n = 0) && (decide (len = 0) || aK (fun i => fg (kk i) && g i) (fun i => gJ (kk i) && g i) kk len ⟨#[101]⟩)) = (decide (n = 0) && ao s && aY kk len 2 [101, 63] 0 && aG g len)
 rw [vq, kY]
 simp only [show (101 : UInt8).toNat = 101 from rfl, Cb, cq]
 by_cases h0 : len = 0
 ·subst h0
  cases decide (n = 0) <;> cases ao s <;> rfl
 by_cases h1 : len = 1
 ·subst h1
  simp only [aG]
  exact BS
 ·simp [h0, h1]
theorem Rn (wg : cs = fun i => decide (kk i = 16) && g i) : bd 15 n s len (fun i => fg (kk i) && g i) (fun i => gJ (kk i) && g i) cs kk = rhs 15 n s len kk g := by
 subst wg
 show (ao s && decide (n = 0) && aG (fun i => decide (kk i = 16) && g i) len) = (decide (n = 0) && ao s && aY kk len 2 [119, 42] 0 && aG g len)
 rw [l5, l7]
 simp only [show (119 : UInt8).toNat = 119 from rfl, ofW]
 cases decide (n = 0) <;> cases ao s <;> cases aG (fun i => decide (kk i = 16)) len <;> cases aG g len <;> rfl
theorem Rs : bd 10 n s len (fun i => fg (kk i) && g i) (fun i => gJ (kk i) && g i) cs kk = rhs 10 n s len kk g := by
 show (ao s && decide (n = 0) && (aK (fun i => fg (kk i) && g i) (fun i => gJ (kk i) && g i) kk len ⟨#[101, 98]⟩ || aK (fun i => fg (kk i) && g i) (fun i => gJ (kk i) && g i) kk len ⟨#[101, 98, 105]⟩)) = (decide (n = 0) && ao s && aY kk len 4 [101, 98, 111, 63] 0 && aG g len)
 rw [I3, pC, Di]
 simp only [show (101 : UInt8).toNat = 101 from rfl, Cb, show (98 : UInt8).toNat = 98 from rfl, show (105 : UInt8).toNat = 105 from rfl, AR, ofO, cq]
 have hb1 := yn (kk 1)
 have ba := blk2 (kk 2)
 by_cases h2 : len = 2
 ·subst h2
  simp only [aG]
  cases hx : decide (kk 1 = 4)
  ·exact OV
  ·rw [hb1 hx]
   exact OV
 by_cases h3 : len = 3
 ·subst h3
  simp only [aG]
  cases hx : decide (kk 1 = 4)
  ·exact BS
  ·rw [hb1 hx]
   cases hy : (decide (kk 2 = 4) || decide (kk 2 = 10))
   ·exact OV
   ·rw [ba hy]
    cases decide (n = 0) <;> cases ao s <;> cases fg (kk 0) <;> cases g 0 <;> cases g 1 <;> cases g 2 <;> rfl
 ·simp [h2, h3]
theorem Rr : bd 11 n s len (fun i => fg (kk i) && g i) (fun i => gJ (kk i) && g i) cs kk = rhs 11 n s len kk g := by
 show (ao s && decide (n = 0) && (aK (fun i => fg (kk i) && g i) (fun i => gJ (kk i) && g i) kk len ⟨#[98]⟩ || aK (fun i => fg (kk i) && g i) (fun i => gJ (kk i) && g i) kk len ⟨#[101, 98]⟩)) = (decide (n = 0) && ao s && aY kk len 3 [101, 63, 98] 0 && aG g len)
 rw [BE, kY, pC]
 simp only [show (101 : UInt8).toNat = 101 from rfl, Cb, show (98 : UInt8).toNat = 98 from rfl, AR, cq]
 have ja := yn (kk 0)
 have hb1 := yn (kk 1)
 by_cases h1 : len = 1
 ·subst h1
  simp only [aG]
  cases hx : decide (kk 0 = 4)
  ·exact BS
  ·rw [ja hx]
   exact BS
 by_cases h2 : len = 2
 ·subst h2
  simp only [aG]
  cases hx : decide (kk 1 = 4)
  ·exact bF8
  ·rw [hb1 hx]
   exact bF8
 ·simp [h1, h2]
end
end
theorem jV (T : Nd) : eH T = rhs T.kind T.num T.name T.len T.kk (fun i => eH (T.kids i)) := BA T
theorem Fp (n : Int) (s : ByteArray) (len : Nat) (kk : Nat → Int) (g : Nat → Bool) : iH 16 n s len (fun i => fg (kk i) && g i) (fun i => gJ (kk i) && g i) kk = rhs 16 n s len kk g := by
  have e1 : iH 16 n s len (fun i => fg (kk i) && g i) (fun i => gJ (kk i) && g i) kk = ((ao s || (decide (n = 1) && aR s)) &&
    (if n = 0 then aK (fun i => fg (kk i) && g i) (fun i => gJ (kk i) && g i) kk len ⟨#[98]⟩ else if n = 1 then aK (fun i => fg (kk i) && g i) (fun i => gJ (kk i) && g i) kk len ⟨#[101, 98]⟩ else if n = 2 then aK (fun i => fg (kk i) && g i) (fun i => gJ (kk i) && g i) kk len ⟨#[101, 101, 98]⟩ else false)) := rfl
  have e2 : rhs 16 n s len kk g = (decide (0 ≤ n) && decide (n ≤ 2) && (ao s || (decide (n = 1) && aR s)) && aY kk len (fW 16 n).size (fW 16 n).data.toList 0 && aG g len) := rfl
  rw [e1, e2]
  by_cases h0 : n = 0
  · subst h0
    show ((ao s || (false && aR s)) && aK _ _ kk len ⟨#[98]⟩) = (true && true && (ao s || (false && aR s)) && aY kk len 1 [98] 0 && aG g len)
    rw [jX, kY]
    simp only [show (98 : UInt8).toNat = 98 from rfl, AR, cq]
    have hb := yn (kk 0)
    by_cases hl : len = 1
    · subst hl
      simp only [aG]
      cases hx : decide (kk 0 = 4)
      · cases ao s <;> cases g 0 <;> rfl
      · rw [hb hx]; cases ao s <;> cases g 0 <;> rfl
    · simp [hl]
  by_cases h1 : n = 1
  · subst h1
    show ((ao s || (true && aR s)) && aK _ _ kk len ⟨#[101, 98]⟩) = (true && true && (ao s || (true && aR s)) && aY kk len 2 [101, 98] 0 && aG g len)
    rw [qi _ _ _ _ (by decide) (by decide), pC]
    simp only [show (98 : UInt8).toNat = 98 from rfl, show (101 : UInt8).toNat = 101 from rfl, AR, Cb, cq]
    have hb := yn (kk 1)
    by_cases hl : len = 2
    · subst hl
      simp only [aG]
      cases hx : decide (kk 1 = 4)
      · cases (ao s || (true && aR s)) <;> cases fg (kk 0) <;> cases g 0 <;> cases g 1 <;> rfl
      · rw [hb hx]; cases (ao s || (true && aR s)) <;> cases fg (kk 0) <;> cases g 0 <;> cases g 1 <;> rfl
    · simp [hl]
  by_cases h2 : n = 2
  · subst h2
    show ((ao s || (false && aR s)) && aK _ _ kk len ⟨#[101, 101, 98]⟩) = (true && true && (ao s || (false && aR s)) && aY kk len 3 [101, 101, 98] 0 && aG g len)
    rw [xY _ _ _ _ _ (by decide) (by decide) (by decide) (by decide), Di]
    simp only [show (98 : UInt8).toNat = 98 from rfl, show (101 : UInt8).toNat = 101 from rfl, AR, Cb, cq]
    have hb := yn (kk 2)
    by_cases hl : len = 3
    · subst hl
      simp only [aG]
      cases hx : decide (kk 2 = 4)
      · cases ao s <;> cases fg (kk 0) <;> cases fg (kk 1) <;> cases g 0 <;> cases g 1 <;> cases g 2 <;> rfl
      · rw [hb hx]; cases ao s <;> cases fg (kk 0) <;> cases fg (kk 1) <;> cases g 0 <;> cases g 1 <;> cases g 2 <;> rfl
    · simp [hl]
  · rw [if_neg h0, if_neg h1, if_neg h2, Bool.and_false]
    have : (decide (0 ≤ n) && decide (n ≤ 2)) = false := by
      rw [Bool.and_eq_false_iff]
      by_cases hx : 0 ≤ n
      · exact .inr (decide_eq_false (by omega))
      · exact .inl (decide_eq_false hx)
    rw [this]; rfl
theorem eqv (T : Nd) : T.eOk = (fg T.kind && eH T) ∧ T.sOk = (gJ T.kind && eH T) ∧ T.cOk = (decide (T.kind = 16) && eH T) := by
 have step : ∀ T : Nd, (∀ i, (T.kids i).eOk = (fg (T.kids i).kind && eH (T.kids i)) ∧ (T.kids i).sOk = (gJ (T.kids i).kind && eH (T.kids i)) ∧ (T.kids i).cOk = (decide ((T.kids i).kind = 16) && eH (T.kids i))) →
   T.eOk = (fg T.kind && eH T) ∧ T.sOk = (gJ T.kind && eH T) ∧ T.cOk = (decide (T.kind = 16) && eH T) := by
  intro T ih
  have hE : (fun i => (T.kids i).eOk) = fun i => fg (T.kk i) && eH (T.kids i) := funext fun i => (ih i).1
  have hS : (fun i => (T.kids i).sOk) = fun i => gJ (T.kk i) && eH (T.kids i) := funext fun i => (ih i).2.1
  have hC : (fun i => (T.kids i).cOk) = fun i => decide (T.kk i = 16) && eH (T.kids i) := funext fun i => (ih i).2.2
  refine ⟨?_, ?_, ?_⟩
  ·rw [de, hE, hS, jV]
   by_cases I0 : T.kind = 22
   ·rw [I0]; exact Rh _ _ _ _ _
   by_cases By : T.kind = 23
   ·rw [By]; exact Rg _ _ _ _ _
   by_cases IZ : T.kind = 24
   ·rw [IZ]; exact Rf _ _ _ _ _
   by_cases Gi : T.kind = 25
   ·rw [Gi]; exact Re _ _ _ _ _
   by_cases EZ : T.kind = 26
   ·rw [EZ]; exact Rd _ _ _ _ _
   by_cases IY : T.kind = 27
   ·rw [IY]; exact Rc _ _ _ _ _
   by_cases Ll : T.kind = 28
   ·rw [Ll]; exact Rb _ _ _ _ _
   by_cases Cm : T.kind = 29
   ·rw [Cm]; exact Q9 _ _ _ _ _
   have hf : fg T.kind = false := by
    cases hx : fg T.kind with
    |false => rfl
    |true => exfalso; simp [fg] at hx; omega
   rw [hf, Bool.false_and]
   unfold cH
   simp only [I0, By, IZ, Gi, EZ, IY, Ll, Cm, if_false]
  ·rw [bK, hE, hS, hC, jV]
   by_cases h4 : T.kind = 4
   ·rw [h4]; exact rhs4 _ _ _ _ _ _
   by_cases h5 : T.kind = 5
   ·rw [h5]; exact rhs5 _ _ _ _ _ _
   by_cases h6 : T.kind = 6
   ·rw [h6]; exact rhs6 _ _ _ _ _ _
   by_cases h7 : T.kind = 7
   ·rw [h7]; exact rhs7 _ _ _ _ _ _
   by_cases h8 : T.kind = 8
   ·rw [h8]; exact rhs8 _ _ _ _ _ _
   by_cases h9 : T.kind = 9
   ·rw [h9]; exact rhs9 _ _ _ _ _ _
   by_cases si : T.kind = 10
   ·rw [si]; exact Rs _ _ _ _ _ _
   by_cases mW : T.kind = 11
   ·rw [mW]; exact Rr _ _ _ _ _ _
   by_cases sh : T.kind = 12
   ·rw [sh]; exact Rq _ _ _ _ _ _
   by_cases Ql : T.kind = 13
   ·rw [Ql]; exact Rp _ _ _ _ _ _
   by_cases Qk : T.kind = 14
   ·rw [Qk]; exact Ro _ _ _ _ _ _
   by_cases qO : T.kind = 17
   ·rw [qO]; exact Rm _ _ _ _ _ _
   by_cases Lp : T.kind = 18
   ·rw [Lp]; exact Rl _ _ _ _ _ _
   by_cases Lo : T.kind = 19
   ·rw [Lo]; exact Rk _ _ _ _ _ _
   by_cases Lm : T.kind = 20
   ·rw [Lm]; exact Rj _ _ _ _ _ _
   by_cases xS : T.kind = 21
   ·rw [xS]; exact Ri _ _ _ _ _ _
   by_cases sf : T.kind = 15
   ·rw [sf]; exact Rn _ _ _ _ _ _ rfl
   have hf : gJ T.kind = false := by
    cases hx : gJ T.kind with
    |false => rfl
    |true => exfalso; simp [gJ] at hx; omega
   rw [hf, Bool.false_and]
   unfold bd
   simp only [h4, h5, h6, h7, h8, h9, si, mW, sh, Ql, Qk, qO, Lp, Lo, Lm, xS, sf, or_self, if_false]
  ·rw [mR, hE, hS, jV]
   by_cases NP : T.kind = 16
   ·rw [NP]; exact Fp _ _ _ _ _
   ·unfold iH
    simp [NP]
 induction T with
 |nil => exact step .nil fun i => ⟨rfl, rfl, rfl⟩
 |mk k n s len kids ih => exact step _ fun i => ih i
theorem xd (P : Nd) : fK P = (decide (P.kind = 3) && eH P) := by
 rw [jV]
 by_cases hk : P.kind = 3
 ·unfold fK
  rw [hk]
  show (true && aR P.name && (decide (1 ≤ P.num) && decide (P.num ≤ 3)) && decide (P.len = 0)) = (true && ((decide (1 ≤ P.num) && decide (P.num ≤ 3)) && aR P.name && aY P.kk P.len 0 [] 0 && aG _ P.len))
  rw [iQ]
  by_cases hl : P.len = 0
  ·rw [hl]
   cases aR P.name <;> cases (decide (1 ≤ P.num) && decide (P.num ≤ 3)) <;> rfl
  ·simp [hl]
 ·unfold fK; simp [hk]
theorem BC (T : Nd) : dd T = (decide (T.kind = 2) && eH T) := by
 rw [jV]
 by_cases hk : T.kind = 2
 ·unfold dd
  rw [hk]
  show (true && aR T.name && (decide (0 ≤ T.num) && decide (T.num ≤ 3)) && decide (1 ≤ T.len) && (aG (fun i => fK (T.kids i)) (T.len - 1) && (decide ((T.kids (T.len - 1)).kind = 4) && (T.kids (T.len - 1)).sOk))) =
   (true && ((decide (0 ≤ T.num) && decide (T.num ≤ 3)) && aR T.name && aY T.kk T.len 3 [112, 42, 98] 0 && aG (fun i => eH (T.kids i)) T.len))
  rw [BF, (eqv _).2.1]
  have hp : (fun i => fK (T.kids i)) = fun i => decide (T.kk i = 3) && eH (T.kids i) := funext fun i => xd _
  rw [hp, l7]
  simp only [ofP, AR]
  by_cases hl : 1 ≤ T.len
  ·obtain ⟨m, hm⟩ : ∃ m, T.len = m + 1 := ⟨T.len - 1, by omega⟩
   rw [hm]
   show _ = (true && ((decide (0 ≤ T.num) && decide (T.num ≤ 3)) && aR T.name && (decide (1 ≤ m + 1) && (aG (fun i => decide (T.kk i = 3)) m && decide (T.kk m = 4))) && (aG (fun i => eH (T.kids i)) m && eH (T.kids m))))
   have hb := yn (T.kids m).kind
   have K6 : T.kk m = (T.kids m).kind := rfl
   rw [K6]
   simp only [Nat.add_sub_cancel]
   cases hx : decide ((T.kids m).kind = 4)
   ·exact bF3
   ·rw [hb hx]
    exact bF3
  ·simp [hl]
 ·unfold dd; simp [hk]
theorem ue (T : Nd) : iE T = dv T := by
 have hg : ((T.pre 0).all fun p => ko p.1) = eH T := rfl
 unfold iE dv
 rw [hg, jV]
 by_cases hk : T.kind = 1
 ·rw [hk]
  show (true && decide (T.size ≤ 600) && (decide (T.num = 0) && ao T.name && aY T.kk T.len 2 [102, 42] 0 && aG (fun i => eH (T.kids i)) T.len)) = (decide (T.size ≤ 600) && true && decide (T.num = 0) && ao T.name && aG (fun i => dd (T.kids i)) T.len)
  have hp : (fun i => dd (T.kids i)) = fun i => decide (T.kk i = 2) && eH (T.kids i) := funext fun i => BC _
  rw [hp, l7, l5]
  simp only [show (102 : UInt8).toNat = 102 from rfl, ofF]
  cases decide (T.size ≤ 600) <;> cases decide (T.num = 0) <;> cases ao T.name <;> cases aG (fun i => decide (T.kk i = 2)) T.len <;> cases aG (fun i => eH (T.kids i)) T.len <;> rfl
 ·simp [hk]
end Go.Proofs.YteaocammohcgoaaGreatDoor
