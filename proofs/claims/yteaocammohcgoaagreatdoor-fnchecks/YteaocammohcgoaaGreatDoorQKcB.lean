import Derived.Test.YteaocammohcgoaaGreatDoorQKaWalk
import Derived.Test.YteaocammohcgoaaGreatDoorQKcA
set_option linter.unusedVariables false
set_option maxHeartbeats 16000000
set_option maxRecDepth 100000
namespace Go.Proofs.YteaocammohcgoaaGreatDoor
open Go.RowKit
variable {G : Prop}
theorem bI0 (h : G := by
 show (!al s && aR s && decide (n = 0) && aK (fun i => fh (kk i) && g i) (fun i => gD (kk i) && g i) kk len ⟨#[101]⟩) = (decide (n = 0) && aR s && aY kk len 1 [101] 0 && aE g len)
 rw [jU, kS]
 simp only [show (101 : UInt8).toNat = 101 from rfl, BE, b9]
 by_cases hl : len = 1
 ·subst hl
  simp only [aE, decide_true, Bool.true_and]
  have dr := rF s
  cases dc : aR s
  ·cases decide (n = 0) <;> cases al s <;> rfl
  rw [dr dc]
  cases decide (n = 0) <;> cases fh (kk 0) <;> cases g 0 <;> rfl
 ·simp [hl]) : G := h
theorem bI1 (h : G := by
 show (al s && decide (n = 0) && aK (fun i => fh (kk i) && g i) (fun i => gD (kk i) && g i) kk len ⟨#[99]⟩) = (decide (n = 0) && al s && aY kk len 1 [99] 0 && aE g len)
 rw [jU, kS]
 simp only [show (99 : UInt8).toNat = 99 from rfl, ofC, b9]
 by_cases hl : len = 1
 ·subst hl
  simp only [aE]
  have hc := SD (kk 0)
  cases hx : decide (kk 0 = 25)
  ·exact Nx
  ·rw [hc hx]
   exact Nx
 ·simp [hl]) : G := h
theorem bI2 (h : G := by
 show (al s && decide (n = 0) && aK (fun i => fh (kk i) && g i) (fun i => gD (kk i) && g i) kk len ⟨#[101]⟩) = (decide (n = 0) && al s && aY kk len 1 [101] 0 && aE g len)
 rw [jU, kS]
 simp only [show (101 : UInt8).toNat = 101 from rfl, BE, b9]
 by_cases hl : len = 1
 ·subst hl
  simp only [aE, decide_true, Bool.true_and]
  cases decide (n = 0) <;> cases al s <;> cases fh (kk 0) <;> cases g 0 <;> rfl
 ·simp [hl]) : G := h
theorem bI3 (h : G := by
 cases aR T.name <;> cases (decide (0 ≤ T.num) && decide (T.num ≤ 3)) <;> cases decide (1 ≤ m + 1) <;> cases aE (fun i => decide (T.kk i = 3)) m <;> cases aE (fun i => eL (T.kids i)) m <;> cases eL (T.kids m) <;> rfl) : G := h
theorem bI4 (h : G := by
 show (al s && decide (n = 0) && decide (len = 0)) = (decide (n = 0) && al s && aY kk len 0 [] 0 && aE g len)
 rw [iN]
 by_cases hl : len = 0
 ·subst hl
  cases decide (n = 0) <;> cases al s <;> rfl
 ·simp [hl]) : G := h
theorem bI5 (h : G := by
 rintro l pre ⟨D, d, v⟩ W K ⟨_, FC, _⟩ hK
 obtain ⟨a, c, hv, _⟩ := ar.1 FC
 have hv : v = .slice a D.len c := hv
 subst hv
 simp only [vO, Nd.val]
 gi_wp2
 exact hK) : G := h
theorem bI6 (h : G := by
 rcases len with _ | _ | n
 ·simp [aY, gC]
 ·cases h : ep (kk 0) c.toNat <;> simp [aY, gC, h]
 ·cases h : ep (kk 0) c.toNat <;> simp [aY, gC, h]) : G := h
theorem bI7 (h : G := by
 cases h : ep (kk 0) c.toNat <;> cases h' : ep (kk 1) c'.toNat <;> cases OP : ep (kk 2) KG.toNat <;> simp [aY, gC, h, h', OP, h1, h2, h3, h4]) : G := h
theorem bI8 (h : G := by
 cases decide (n = 0) <;> cases al s <;> cases fh (kk 0) <;> cases g 0 <;> cases g 1 <;> cases decide (kk 0 = 4) <;> cases gD (kk 0) <;> rfl) : G := h
theorem bI9 (h : G := by
 cases h : ep (kk 0) 101 <;> cases h' : ep (kk 1) 98 <;> cases OP : ep (kk 2) 111 <;> simp [aY, gC, h, h', OP]) : G := h
theorem Vm (h : G := by
 cases h : ep (kk 0) 101 <;> cases h' : ep (kk 0) 98 <;> cases OP : ep (kk 1) 98 <;> simp_all [aY, gC]) : G := h
theorem Vl (h : G := by
 cases h : ep (kk 0) c.toNat <;> cases h' : ep (kk 1) c'.toNat <;> simp [aY, gC, h, h', h1, h2]) : G := h
theorem Ny (h : G := by
 cases decide (n = 0) <;> cases al s <;> cases fh (kk 0) <;> cases g 0 <;> cases g 1 <;> rfl) : G := h
theorem I7 (h : G := by
 exact hb3.grown gp (by have := hb3.size; omega) (fun k e => by have := Option.some.inj e; omega)) : G := h
theorem Bu (h : G := by
 cases decide (n = 0) <;> cases al s <;> cases fh (kk 0) <;> cases g 0 <;> rfl) : G := h
theorem Nx (h : G := by
 cases decide (n = 0) <;> cases al s <;> cases g 0 <;> rfl) : G := h
theorem Vk (h : G := by
 have qr := jA.res.cell
 have qrf := jA.res.frozen
 have vI : W3.heap.size = W1.heap.size + 1 := by rw [pZ]; simp
 have fC : W3.heap[W1.heap.size]? = some (nO D (.slice av D.len cv)) := by
  rw [pZ, World.putObj_heap_other (by omega)]; exact World.alloc_heap_new W1 _
 have x0 : W3.cell? ⟨W1.heap.size, 0, none⟩ = some (.int .i64 D.kind) := (cell_of_row _ _ 0 _ _ (0, 0) fC).trans rfl
 have x1 : W3.cell? ⟨W1.heap.size, 1, none⟩ = some (.int .i64 D.num) := (cell_of_row _ _ 1 _ _ (0, 0) fC).trans rfl
 have x2 : W3.cell? ⟨W1.heap.size, 2, none⟩ = some (.string D.name) := (cell_of_row _ _ 2 _ _ (0, 0) fC).trans rfl
 have x3 : W3.cell? ⟨W1.heap.size, 3, none⟩ = some (.slice av D.len cv) := (cell_of_row _ _ 3 _ _ (0, 0) fC).trans rfl
 first
 |clear k_0
  have eZ := fS.size
  have d1 : ¬ W1.heap.size = w.heap.size + 1 + 1 + 1 := by omega
  have d2 : ¬ w.heap.size + 1 + 1 + 1 = W1.heap.size := by omega
  have qD : Hid (m < ((1 + lens (pre.map key) + D.len : Nat) : Int) → jo T m = false) := fun h => Dq gO h
  have HI := aa jA
  obtain ⟨ls, xk⟩ : ∃ ls, lens (pre.map key) = ls := ⟨_, rfl⟩
  have Fq := aa xk
  rw [xk] at q dm qD
  clear xk
  have Pc : ∀ u : Value, Hid (KeptF (fun k => k = w.heap.size + 1 + 1 + 1) W3 (W3.setCell ⟨w.heap.size + 1 + 1 + 1, 0, none⟩ u)) := fun u => ⟨by simp [World.setCell], fun k hk hm => Below.heap_setCell _ _ _ _ hm⟩
  have hzi := HI.out.size
  clear gO FC Ou fS jA pZ uW uV Ba c0 c1 c2 c3 c4 fC
  have RH : ((1 + ls : Nat) : Int) + (D.len : Int) = ((1 + ls + D.len : Nat) : Int) := by omega
  have HCST := aa RH
  clear RH
  by_cases hbig : m < ((1 + ls : Nat) : Int) + (D.len : Int)
  ·have fI := aa (qD.out (by rw [← HCST.out]; exact hbig))
   gi_wp2_with (refine ⟨trivial, ?_⟩)
   refine ⟨(KeepsOthers.setCell _ _ _).trans (KeepsOthers.setCell _ _ _), rfl, (HI.out.below.setCell (p := ⟨w.heap.size + 1 + 1 + 1, 0, none⟩) (by show w.heap.size ≤ w.heap.size + 1 + 1 + 1; omega) _).setCell (p := ⟨w.heap.size + 1 + 1, 0, none⟩) (by show w.heap.size ≤ w.heap.size + 1 + 1; omega) _, ?_, fI.out, ?_⟩
   ·have RR : ∀ u : Value, Boxed (W3.setCell ⟨w.heap.size + 1 + 1 + 1, 0, none⟩ u) (w.heap.size + 1 + 1) 4 (.bool false) := fun u => (Below.heap_setCell _ _ _ _ (by show w.heap.size + 1 + 1 ≠ w.heap.size + 1 + 1 + 1; omega)).trans HI.out.res
    exact (RR _).set (.bool false)
   ·simp [World.setCell]; omega
  ·gi_wp2_with (refine ⟨trivial, ?_⟩)
   refine ⟨KeepsOthers.setCell _ _ _, (Pc _).out, HI.out.below.setCell (p := ⟨w.heap.size + 1 + 1 + 1, 0, none⟩) (by show w.heap.size ≤ w.heap.size + 1 + 1 + 1; omega) _, (Below.heap_setCell _ _ _ _ (by show w.heap.size + 1 ≠ w.heap.size + 1 + 1 + 1; omega)).trans HI.out.mst, (Below.heap_setCell _ _ _ _ (by show w.heap.size + 1 + 1 ≠ w.heap.size + 1 + 1 + 1; omega)).trans HI.out.res, ?_, ?_, by simp [World.setCell]; omega⟩
   ·rw [show lens ((pre ++ [(⟨D, d, .slice av D.len cv⟩ : gZ)]).map key) = ls + D.len by rw [List.map_append, jO, Fq.out]; simp [lens, key]]
    have e : (1 : Int) + (ls : Int) + (D.len : Int) = ((1 + (ls + D.len) : Nat) : Int) := by omega
    rw [← e]; exact HI.out.cnt.set _
   ·rw [show lens ((pre ++ [(⟨D, d, .slice av D.len cv⟩ : gZ)]).map key) = ls + D.len by rw [List.map_append, jO, Fq.out]; simp [lens, key]]
    omega
 |clear k_1
  have eZ := hi.size
  have qD : Hid (kl D = false → iw T = false) := fun h => wK gO h
  have HI := aa jA
  have HNF := aa (sL D k hk (by omega) W3 (.slice av D.len cv) w.heap.size Ou jA.below.size (by omega) (ah jA.below lr FC) (ez HT.out jA.below))
  have oY := aa hi.ok
  unfold Nd.val at HNF
  have hzi := HI.out.size
  clear gO FC Ou hi jA pZ uW uV Ba c0 c1 c2 c3 c4 fC hk iI Mw
  cases BO : kl D
  ·have fI := aa (qD.out BO)
   gi_wp2_with ((refine ⟨trivial, ?_⟩; gi_at_call 28; refine (CallsIn.inRound l (callsIn_wide.2 HNF.out)).mono ?_; rw [BO]; rintro e w' ⟨rfl, hb3⟩; have vB := hb3.size; have B3 := aa (HI.out.below.trans (hb3.mono (by omega))); have R3 := aa (show Boxed w' (w.heap.size + 1) 4 (.bool false) from (hb3.block _ (by omega)).trans HI.out.res); have K3 := aa (oD hb3); have qr3 := R3.out.cell; have qf3 := R3.out.frozen; clear hb3))
   refine ⟨K3.out.trans (KeepsOthers.setCell _ _ _), rfl, B3.out.setCell (p := ⟨w.heap.size + 1, 0, none⟩) (by show w.heap.size ≤ w.heap.size + 1; omega) _, R3.out.set (.bool false), fI.out, ?_⟩
   simp [World.setCell]; omega
  ·gi_wp2_with ((refine ⟨trivial, ?_⟩; gi_at_call 28; refine (CallsIn.inRound l (callsIn_wide.2 HNF.out)).mono ?_; rw [BO]; rintro e w' ⟨rfl, hb3⟩; have vB := hb3.size; have B3 := aa (HI.out.below.trans (hb3.mono (by omega))); have R3 := aa (show Boxed w' (w.heap.size + 1) 4 (.bool false) from (hb3.block _ (by omega)).trans HI.out.res); have K3 := aa (oD hb3); have F3 : Hid (KeptF (fun k => False) W3 w') := ⟨hb3.size, fun k hk _ => hb3.block k hk⟩; clear hb3))
   refine ⟨K3.out, F3.out, B3.out, R3.out, ?_, by omega⟩
   intro x hx
   rcases List.mem_append.1 hx with hx | hx
   ·exact oY.out x hx
   ·rw [List.mem_singleton.1 hx]; exact BO) : G := h
theorem Vj (h : G := by
 rintro D c pre W hD _ hx hK
 obtain rfl := hx.ret
 have hb3 := hx.below
 have r0 := hx.res
 have HO := aa hx.bad
 clear hx uW uV Ba c0 c1 c2 c3 c4
 gi_wp2
 refine ⟨by simp, .inl ⟨_, _, rfl, run_takeDeferred hK, ?_⟩⟩
 have gp := grownBy_putObj' W D (.deferred none)
 have p0 := (r0.kept gp (fun e => by have := Option.some.inj e; omega)).cell
 first
 |clear k_0
  refine ⟨.bool false, by simp [results, Tryz.results27, go_sem, p0], ao HO.out.symm, ?_⟩
  exact I7
 |clear k_1
  refine ⟨.bool false, by simp [results, Tryz.results16, go_sem, p0], ao HO.out.symm, ?_⟩
  exact I7) : G := h
theorem Vi (h : G := by
 intro r0 Ij hb3
 refine ⟨by simp, .inl ⟨_, _, rfl, run_takeDeferred Ij, ?_⟩⟩
 have gp := grownBy_putObj' X D (.deferred none)
 have p0 := (r0.kept gp (fun e => by have := Option.some.inj e; omega)).cell
 first
 |clear k_0
  refine ⟨.bool true, by simp [results, Tryz.results27, go_sem, p0], ao HG.out.symm, ?_⟩
  exact I7
 |clear k_1
  refine ⟨.bool true, by simp [results, Tryz.results16, go_sem, p0], ao HG.out.symm, ?_⟩
  exact I7) : G := h
section
open Go.RowKit Go.Shelf
attribute [local go_sem] Oper.semAt_some
theorem oD {A C : World} (h : Below A.heap.size A C) : KeepsOthers A C := ⟨h.size, fun k o ho _ => (h.block k (Array.getElem?_eq_some_iff.1 ho).1).trans ho⟩
def jo (T : Nd) (m : Int) : Bool := decide ((T.size : Int) ≤ m)
theorem Dq {T : Nd} {m : Int} {A B : List (Nd × Nat)} {p : Nd × Nat} (h : A ++ p :: B = T.pre 0) (hb : m < ((1 + lens A + p.1.len : Nat) : Int)) : jo T m = false := by
 have hs := jN T 0
 rw [← h, jO] at hs
 have : lens (p :: B) = p.1.len + lens B := by simp [lens]
 unfold jo
 rw [decide_eq_false_iff_not]
 omega
theorem AF {T : Nd} {m : Int} (h : ((1 + lens (T.pre 0) : Nat) : Int) ≤ m) : jo T m = true := by
 have hs := jN T 0
 unfold jo
 rw [decide_eq_true_eq]
 omega
structure MoI (w : World) (m : Int) (pre : List gZ) (W : World) : Prop where
 below : Below w.heap.size w W
 mst : Boxed W (w.heap.size + 1) 3 (.int .i64 m)
 res : Boxed W (w.heap.size + 1 + 1) 4 (.bool false)
 cnt : Boxed W (w.heap.size + 1 + 1 + 1) 3 (.int .i64 ((1 + lens (pre.map key) : Nat) : Int))
 few : ((1 + lens (pre.map key) : Nat) : Int) ≤ m
 size : w.heap.size + 4 ≤ W.heap.size
structure MoX (w : World) (T : Nd) (m : Int) (c : Code) (W : World) : Prop where
 ret : c = .ret
 below : Below w.heap.size w W
 res : Boxed W (w.heap.size + 1 + 1) 4 (.bool false)
 bad : jo T m = false
 size : w.heap.size + 4 ≤ W.heap.size
theorem Dr (T : Nd) (m : Int) (w : World) (u : Value) (hi : Nat) (hf : T.Fine) (cY : hi ≤ w.heap.size) (hr : Row 0 hi w T u) (hc : T.cost ≤ 1048576) (Re : 1 ≤ m) (FE : m ≤ 1000000) :
    Calls Tryz.prog 27 #[T.val u, .int .i64 m] w fun e w' => e = .returned (.bool (jo T m)) ∧ Below w.heap.size w w' := by
  obtain ⟨au, cu, hu, _⟩ := ar.1 hr
  subst hu
  refine (callsIn_wide (n := 3)).1 ?_
  refine callsIn_of_wp_marks Tryz.func27 rfl trivial ?_ rfl
  unfold Nd.val
  simp only [Tryz.ntmps27, List.size_toArray, List.length_cons, List.length_nil, Nat.reduceAdd, Nat.reduceSub, Array.replicate_succ, Array.replicate_zero, List.push_toArray, List.append_toArray, List.nil_append, List.cons_append]
  gi_wp2_with ((refine ⟨trivial, ?_⟩; gi_at_call 25; refine (callsIn_wide.2 (nS _ _ _ _ _ _ _)).mono ?_; rintro e w' ⟨rfl, rfl⟩))
  obtain ⟨V, hV⟩ : ∃ V, (((((((w.alloc (nO T (.slice au T.len cu))).alloc (.cells #[.int .i64 m] 3)).alloc (.cells #[.bool false] 4)).alloc (.cells #[.int .i64 1] 3)).alloc (nO T (.slice au T.len cu))).alloc (nO T (.slice au T.len cu))).alloc (.cells #[.func (.func 52) #[] #[]] 83)) = V := ⟨_, rfl⟩
  have bS : V.heap.size = w.heap.size + 7 := by rw [← hV]; simp
  have iY : Below w.heap.size w V := by
    rw [← hV]
    exact (((((((Below.refl _ w).alloc lr _).alloc (by simp) _).alloc (by simp; omega) _).alloc (by simp; omega) _).alloc (by simp; omega) _).alloc (by simp; omega) _).alloc (by simp; omega) _
  have c0 : V.cell? ⟨w.heap.size + 1 + 1 + 1 + 1 + 1, 0, none⟩ = some (.int .i64 T.kind) := by rw [← hV]; simp [go_sem]
  have c1 : V.cell? ⟨w.heap.size + 1 + 1 + 1 + 1 + 1, 1, none⟩ = some (.int .i64 T.num) := by rw [← hV]; simp [go_sem]
  have c2 : V.cell? ⟨w.heap.size + 1 + 1 + 1 + 1 + 1, 2, none⟩ = some (.string T.name) := by rw [← hV]; simp [go_sem]
  have c3 : V.cell? ⟨w.heap.size + 1 + 1 + 1 + 1 + 1, 3, none⟩ = some (.slice au T.len cu) := by rw [← hV]; simp [go_sem]
  have c4 : V.cell? ⟨w.heap.size + 1 + 1 + 1 + 1 + 1 + 1, 0, none⟩ = some (.func (.func 52) #[] #[]) := by rw [← hV]; simp [go_sem]
  have b1 := Boxed.new (w.alloc (nO T (.slice au T.len cu))) 3 (.int .i64 m)
  have b2 := Boxed.new ((w.alloc (nO T (.slice au T.len cu))).alloc (.cells #[.int .i64 m] 3)) 4 (.bool false)
  have b3 := Boxed.new (((w.alloc (nO T (.slice au T.len cu))).alloc (.cells #[.int .i64 m] 3)).alloc (.cells #[.bool false] 4)) 3 (.int .i64 1)
  simp only [World.size_alloc] at b1 b2 b3
  have uW : MoI w m [] V := by
    refine ⟨iY, ?_, ?_, ?_, by simp [lens]; omega, by omega⟩
    · rw [← hV]; exact ((((b1.alloc _).alloc _).alloc _).alloc _).alloc _
    · rw [← hV]; exact (((b2.alloc _).alloc _).alloc _).alloc _
    · rw [← hV]; exact ((b3.alloc _).alloc _).alloc _
  have uV : jw V.heap.size (MoI w m) := fun pre A C h hb => by
    have hz := h.size
    exact ⟨h.below.trans (hb.mono (by omega)), (hb.block _ (by omega)).trans h.mst, (hb.block _ (by omega)).trans h.res, (hb.block _ (by omega)).trans h.cnt, h.few, by have := hb.size; omega⟩
  have Ba : ∀ c, jw V.heap.size (fun (_ : List gZ) W => MoX w T m c W) := fun c pre A C h hb => by
    have hz := h.size
    exact ⟨h.ret, h.below.trans (hb.mono (by omega)), (hb.block _ (by omega)).trans h.res, h.bad, by have := hb.size; omega⟩
  rw [hV]
  clear hV b1 b2 b3
  have hn := T.fine_len hf
  have H1 := bl hr lr cY
  refine eo (α := gZ) (encs := vO) (S := Bv T) (Sp := fun _ => True) (Came := zm T w.heap.size w) (mine := fun k => k = w.heap.size + 1 + 1 + 1) rfl (by omega) (gf := 75) (lb := #[.pointer (some ⟨w.heap.size + 1 + 1 + 1 + 1 + 1, 0, none⟩), .pointer (some ⟨w.heap.size + 1 + 1 + 1 + 1 + 1 + 1, 0, none⟩)]) rfl trivial (enters_of Tryz.func75 (by kernel_rfl) rfl)
    (fun l J Jx W Et vJ hJ hJx Ev hY h0 => by
      have bV : ∀ b o, b < V.heap.size → W.cell? ⟨b, o, none⟩ = V.cell? ⟨b, o, none⟩ := fun b o hb => vJ.cell (p := ⟨b, o, none⟩) hb
      exact sy 2 (by omega) T (.slice au T.len cu) w.heap.size V.heap.size (w.heap.size + 1 + 1 + 1 + 1 + 1) (w.heap.size + 1 + 1 + 1 + 1 + 1 + 1) l (fun k => k = w.heap.size + 1 + 1 + 1) J Jx w W hf hc Et (by omega) (by omega) (by omega) (fun k hk => by omega) (fun k hk => ((vJ.block k (by omega)).trans (iY.block k hk))) H1 hJ Ev hY h0
        ((bV _ _ (by omega)).trans c0) ((bV _ _ (by omega)).trans c1) ((bV _ _ (by omega)).trans c2) ((bV _ _ (by omega)).trans c3) ((bV _ _ (by omega)).trans c4))
    (fun _ => rfl) (MoI w m) (fun c _ W => MoX w T m c W) uV Ba uW
    (fun x W => { tmps := #[.agg #[.int .i64 T.kind, .int .i64 T.num, .string T.name, .slice au T.len cu], .int .i64 m, .pointer (some ⟨w.heap.size, 0, none⟩), .pointer (some ⟨w.heap.size + 1, 0, none⟩), .pointer (some ⟨w.heap.size + 1 + 1, 0, none⟩), .pointer (some ⟨w.heap.size + 1 + 1 + 1, 0, none⟩), .pointer (some ⟨W.heap.size, 0, none⟩), .agg #[.int .i64 T.kind, .int .i64 T.num, .string T.name, .slice au T.len cu], .func (.func 75) #[] #[.pointer (some ⟨w.heap.size + 1 + 1 + 1 + 1 + 1, 0, none⟩), .pointer (some ⟨w.heap.size + 1 + 1 + 1 + 1 + 1 + 1, 0, none⟩)], x.D.val x.v, .int .i64 (x.d : Int), undef, undef, undef, undef, undef, undef, undef, undef], defers := [] })
    (fun x W => W.alloc (.cells #[.int .i64 x.D.kind, .int .i64 x.D.num, .string x.D.name, x.v] 25)) (fun x W => bA) ?assign ?body ?done ?stop
  case assign =>
    exact bI5
  case body =>
    rintro l pre ⟨D, d, v⟩ W1 W3 r fS hz ⟨⟨rest, gO⟩, FC, Ou⟩ pZ jA
    obtain ⟨av, cv, hv, _⟩ := ar.1 FC
    have hv : v = .slice av D.len cv := hv
    subst hv
    have gO : pre.map key ++ (D, d) :: rest = T.pre 0 := gO
    have hlen : D.len ≤ 1048576 + 1 := by
      have h1 := jN T 0
      rw [← gO, jO] at h1
      have h2 : lens ((D, d) :: rest) = D.len + lens rest := by simp [lens]
      have := T.size_cost
      omega
    have dm := fS.few
    have q := jA.cnt.cell
    have qf := jA.cnt.frozen
    have qm := jA.mst.cell
    have k_0 := kk
    exact Vk
  case done =>
    rintro D xs W hD hS fS hK
    have HG : Hid (jo T m = true) := AF (by have := fS.few; rw [hS] at this; exact this)
    have qr := fS.res.cell
    have qrf := fS.res.frozen
    have HI := aa fS
    have HK := aa hK
    clear hS fS hK uW uV Ba c0 c1 c2 c3 c4
    gi_wp2
    have h := HI.out
    have r0 := h.res.set (.bool true)
    have Ij : (W.setCell ⟨w.heap.size + 1 + 1, 0, none⟩ (.bool true)).heap[D]? = some (.deferred (some [])) := (Below.heap_setCell _ _ _ _ (by show D ≠ w.heap.size + 1 + 1; omega)).trans HK.out
    have hb3 := h.below.setCell (p := ⟨w.heap.size + 1 + 1, 0, none⟩) (by show w.heap.size ≤ w.heap.size + 1 + 1; omega) (.bool true)
    revert r0 Ij hb3
    generalize W.setCell ⟨w.heap.size + 1 + 1, 0, none⟩ (.bool true) = X
    have k_0 := kk
    exact Vi
  case stop =>
    have k_0 := kk
    exact Vj
end
section
open Go.RowKit Go.Shelf
attribute [local go_sem] Oper.semAt_some
structure TrI (w w2 : World) (pre : List gZ) (W : World) : Prop where
 below : Below w.heap.size w W
 res : Boxed W (w.heap.size + 1) 4 (.bool false)
 ok : ∀ x ∈ pre, kl x.D = true
 size : w2.heap.size + 3 ≤ W.heap.size
structure TrX (w w2 : World) (T : Nd) (c : Code) (W : World) : Prop where
 ret : c = .ret
 below : Below w.heap.size w W
 res : Boxed W (w.heap.size + 1) 4 (.bool false)
 bad : iw T = false
 size : w2.heap.size + 3 ≤ W.heap.size
theorem DH {T : Nd} (h : jo T 600 = false) : iw T = false := by
 unfold jo at h
 have h : ¬ ((T.size : Int) ≤ 600) := by simpa using h
 have h6 : ¬ T.size ≤ 600 := by omega
 unfold iw
 simp [h6]
theorem wK {T : Nd} {A B : List (Nd × Nat)} {p : Nd × Nat} (h : A ++ p :: B = T.pre 0) (hb : kl p.1 = false) : iw T = false := DI h (.inr hb)
theorem DJ {T : Nd} (hT : T.kind = 1) (h6 : jo T 600 = true) (hA : ∀ q ∈ T.pre 0, kl q.1 = true) : iw T = true := by
 unfold jo at h6
 have h6 : (T.size : Int) ≤ 600 := by simpa using h6
 refine AR hT ?_ hA
 have := jN T 0
 omega
theorem AP (T : Nd) (w : World) (u : Value) (hf : T.Fine) (hr : Row 0 w.heap.size w T u) (hc : T.cost ≤ 1048576) (ht : oW w) :
    Calls Tryz.prog 16 #[T.val u] w fun e w' => e = .returned (.bool (iw T)) ∧ Below w.heap.size w w' := by
  obtain ⟨au, cu, hu, _⟩ := ar.1 hr
  subst hu
  have bB := ht.lt
  by_cases hk : T.kind = 1
  case neg =>
    have HO : Hid (iw T = false) := by unfold Hid iw; simp [hk]
    have Ei : (T.kind != 1) = true := by rw [bne_iff_ne]; exact hk
    clear hk hr ht
    unfold Nd.val
    generalize T.kind = tk at *
    go_enter Tryz.func16, Tryz.ntmps16
    go_wp2
    refine bodyPost_ret (v := .bool false) (by simp [results, Tryz.results16, go_sem]) rfl ⟨ao HO.out.symm, ?_⟩
    exact (bA).alloc (by simp) _
  have Ei : (T.kind != 1) = false := by simp [hk]
  have gi := aa hk
  clear hk
  have HM : Hid (∀ (W : World), Below w.heap.size w W → Calls Tryz.prog 27 #[T.val (.slice au T.len cu), .int .i64 600] W fun e w' => e = .returned (.bool (jo T 600)) ∧ Below W.heap.size W w') :=
    fun W hb => Dr T 600 W _ w.heap.size hf hb.size (ah hb lr hr) hc (by omega) (by omega)
  unfold Nd.val at HM
  obtain ⟨W0, MI⟩ : ∃ W0, (w.alloc (nO T (.slice au T.len cu))).alloc (.cells #[.bool false] 4) = W0 := ⟨_, rfl⟩
  have OX : Hid (W0.heap.size = w.heap.size + 2) := by unfold Hid; rw [← MI]; simp
  have dY : Hid (Below w.heap.size w W0) := by rw [← MI]; exact (bA).alloc (by simp) _
  have dH : Hid (W0.cell? ⟨w.heap.size, 0, none⟩ = some (.int .i64 T.kind) ∧ W0.cell? ⟨w.heap.size, 1, none⟩ = some (.int .i64 T.num) ∧ W0.cell? ⟨w.heap.size, 2, none⟩ = some (.string T.name) ∧ W0.cell? ⟨w.heap.size, 3, none⟩ = some (.slice au T.len cu) ∧ Boxed W0 (w.heap.size + 1) 4 (.bool false)) := by
    have b1 := Boxed.new (w.alloc (nO T (.slice au T.len cu))) 4 (.bool false)
    simp only [World.size_alloc] at b1
    unfold Hid
    rw [← MI]
    exact ⟨by simp [go_sem], by simp [go_sem], by simp [go_sem], by simp [go_sem], b1⟩
  have ji := aa MI
  clear MI
  cases hmb : jo T 600
  case false =>
    have HO := aa (DH hmb)
    unfold Nd.val
    clear hr ht
    go_enter Tryz.func16, Tryz.ntmps16
    go_wp2_with (go_at_call 27; rw [ji.out]; refine (HM.out _ dY.out).mono ?_; rw [hmb]; rintro e w2 ⟨rfl, hb2⟩; obtain ⟨q0, q1, q2, q3, qb⟩ := dH.out; have R2 := aa (show Boxed w2 (w.heap.size + 1) 4 (.bool false) from (hb2.block _ (by have := OX.out; omega)).trans qb); have fI := aa (dY.out.trans (hb2.mono (by have := OX.out; omega))); have r1 := R2.out.cell; have r2 := R2.out.frozen; clear hb2 qb)
    refine bodyPost_ret (v := .bool false) (by have := (R2.out.set (.bool false)).cell; simp [results, Tryz.results16, go_sem, this]) rfl ⟨ao HO.out.symm, ?_⟩
    exact fI.out.setCell (p := ⟨w.heap.size + 1, 0, none⟩) (by show w.heap.size ≤ w.heap.size + 1; omega) _
  have HMB := aa hmb
  refine (callsIn_wide (n := 3)).1 ?_
  refine callsIn_of_wp_marks Tryz.func16 rfl trivial ?_ rfl
  unfold Nd.val
  simp only [Tryz.ntmps16, List.size_toArray, List.length_cons, List.length_nil, Nat.reduceAdd, Nat.reduceSub, Array.replicate_succ, Array.replicate_zero, List.push_toArray, List.append_toArray, List.nil_append, List.cons_append]
  gi_wp2_with (refine ⟨trivial, ?_⟩; first
    | (gi_at_call 27; rw [ji.out]; refine (callsIn_wide.2 (HM.out _ dY.out)).mono ?_; rw [hmb]; rintro e w2 ⟨rfl, hb2⟩; obtain ⟨q0, q1, q2, q3, qb⟩ := dH.out; rw [← hb2.cell (p := ⟨w.heap.size, _, none⟩) (show w.heap.size < W0.heap.size by have := OX.out; omega)] at q0 q1 q2 q3; have R2 := aa (show Boxed w2 (w.heap.size + 1) 4 (.bool false) from (hb2.block _ (by have := OX.out; omega)).trans qb); have fI := aa (dY.out.trans (hb2.mono (by have := OX.out; omega))); have HZ2 := aa (show w.heap.size + 2 ≤ w2.heap.size by have := hb2.size; have := OX.out; omega); clear hb2 qb)
    | (gi_at_call 25; refine (callsIn_wide.2 (nS _ _ _ _ _ _ _)).mono ?_; rintro e w' ⟨rfl, rfl⟩))
  obtain ⟨V, hV⟩ : ∃ V, ((w2.alloc (nO T (.slice au T.len cu))).alloc (nO T (.slice au T.len cu))).alloc (.cells #[.func (.func 52) #[] #[]] 83) = V := ⟨_, rfl⟩
  have bS : V.heap.size = w2.heap.size + 3 := by rw [← hV]; simp
  have ec := HZ2.out
  have RZ : Below w2.heap.size w2 V := by
    rw [← hV]
    exact (((Below.refl _ w2).alloc lr _).alloc (by simp) _).alloc (by simp; omega) _
  have iY : Below w.heap.size w V := fI.out.trans (RZ.mono (by omega))
  have c0 : V.cell? ⟨w2.heap.size + 1, 0, none⟩ = some (.int .i64 T.kind) := by rw [← hV]; simp [go_sem]
  have c1 : V.cell? ⟨w2.heap.size + 1, 1, none⟩ = some (.int .i64 T.num) := by rw [← hV]; simp [go_sem]
  have c2 : V.cell? ⟨w2.heap.size + 1, 2, none⟩ = some (.string T.name) := by rw [← hV]; simp [go_sem]
  have c3 : V.cell? ⟨w2.heap.size + 1, 3, none⟩ = some (.slice au T.len cu) := by rw [← hV]; simp [go_sem]
  have c4 : V.cell? ⟨w2.heap.size + 1 + 1, 0, none⟩ = some (.func (.func 52) #[] #[]) := by rw [← hV]; simp [go_sem]
  have uW : TrI w w2 [] V := ⟨iY, (RZ.block _ (by omega)).trans R2.out, (fun x hx => by cases hx), by omega⟩
  have uV : jw V.heap.size (TrI w w2) := fun pre A C h hb => by
    have hz := h.size
    exact ⟨h.below.trans (hb.mono (by omega)), (hb.block _ (by omega)).trans h.res, h.ok, by have := hb.size; omega⟩
  have Ba : ∀ c, jw V.heap.size (fun (_ : List gZ) W => TrX w w2 T c W) := fun c pre A C h hb => by
    have hz := h.size
    exact ⟨h.ret, h.below.trans (hb.mono (by omega)), (hb.block _ (by omega)).trans h.res, h.bad, by have := hb.size; omega⟩
  rw [hV]
  clear hV q0 q1 q2 q3
  have HT := aa ht
  have hn := T.fine_len hf
  refine eo (α := gZ) (encs := vO) (S := Bv T) (Sp := fun _ => True) (Came := zm T w.heap.size w) (mine := fun k => False) rfl (by omega) (gf := 75) (lb := #[.pointer (some ⟨w2.heap.size + 1, 0, none⟩), .pointer (some ⟨w2.heap.size + 1 + 1, 0, none⟩)]) rfl trivial (enters_of Tryz.func75 (by kernel_rfl) rfl)
    (fun l J Jx W Et vJ hJ hJx Ev hY h0 => by
      have bV : ∀ b o, b < V.heap.size → W.cell? ⟨b, o, none⟩ = V.cell? ⟨b, o, none⟩ := fun b o hb => vJ.cell (p := ⟨b, o, none⟩) hb
      exact sy 2 (by omega) T (.slice au T.len cu) w.heap.size V.heap.size (w2.heap.size + 1) (w2.heap.size + 1 + 1) l (fun k => False) J Jx w W hf hc Et (by omega) (by omega) (by omega) (fun k hk => hk.elim) (fun k hk => ((vJ.block k (by omega)).trans (iY.block k hk))) hr hJ Ev hY h0
        ((bV _ _ (by omega)).trans c0) ((bV _ _ (by omega)).trans c1) ((bV _ _ (by omega)).trans c2) ((bV _ _ (by omega)).trans c3) ((bV _ _ (by omega)).trans c4))
    (fun _ => rfl) (TrI w w2) (fun c _ W => TrX w w2 T c W) uV Ba uW
    (fun x W => { tmps := #[.agg #[.int .i64 T.kind, .int .i64 T.num, .string T.name, .slice au T.len cu], .pointer (some ⟨w.heap.size, 0, none⟩), .pointer (some ⟨w.heap.size + 1, 0, none⟩), .pointer (some ⟨W.heap.size, 0, none⟩), .pointer (some ⟨w.heap.size, 0, none⟩), .int .i64 T.kind, .bool false, .bool false, .agg #[.int .i64 T.kind, .int .i64 T.num, .string T.name, .slice au T.len cu], .bool true, .bool false, .bool false, .agg #[.int .i64 T.kind, .int .i64 T.num, .string T.name, .slice au T.len cu], .func (.func 75) #[] #[.pointer (some ⟨w2.heap.size + 1, 0, none⟩), .pointer (some ⟨w2.heap.size + 1 + 1, 0, none⟩)], x.D.val x.v, .int .i64 (x.d : Int), undef, undef, undef], defers := [] })
    (fun x W => W.alloc (.cells #[.int .i64 x.D.kind, .int .i64 x.D.num, .string x.D.name, x.v] 25)) (fun x W => bA) ?assign ?body ?done ?stop
  case assign =>
    exact bI5
  case body =>
    rintro l pre ⟨D, d, v⟩ W1 W3 r hi hz ⟨⟨rest, gO⟩, FC, Ou⟩ pZ jA
    obtain ⟨av, cv, hv, _⟩ := ar.1 FC
    have hv : v = .slice av D.len cv := hv
    subst hv
    have gO : pre.map key ++ (D, d) :: rest = T.pre 0 := gO
    obtain ⟨iI, Mw⟩ := AE gi.out gO (fun q hq => by obtain ⟨x, hx, rfl⟩ := List.mem_map.1 hq; exact hi.ok x hx)
    have iI : 1 ≤ D.kind := iI
    have Mw : D.kind ≤ 29 := Mw
    obtain ⟨k, hk⟩ : ∃ k : Nat, D.kind = (k : Int) := ⟨D.kind.toNat, by omega⟩
    have k_1 := kk
    exact Vk
  case done =>
    rintro D xs W hD hS hi hK
    have HG : Hid (iw T = true) := DJ gi.out HMB.out (fun q hq => by rw [← hS] at hq; obtain ⟨x, hx, rfl⟩ := List.mem_map.1 hq; exact hi.ok x hx)
    have qr := hi.res.cell
    have qrf := hi.res.frozen
    have HI := aa hi
    have HK := aa hK
    clear hS hi hK uW uV Ba c0 c1 c2 c3 c4
    gi_wp2
    have h := HI.out
    have r0 := h.res.set (.bool true)
    have Ij : (W.setCell ⟨w.heap.size + 1, 0, none⟩ (.bool true)).heap[D]? = some (.deferred (some [])) := (Below.heap_setCell _ _ _ _ (by show D ≠ w.heap.size + 1; omega)).trans HK.out
    have hb3 := h.below.setCell (p := ⟨w.heap.size + 1, 0, none⟩) (by show w.heap.size ≤ w.heap.size + 1; omega) (.bool true)
    revert r0 Ij hb3
    generalize W.setCell ⟨w.heap.size + 1, 0, none⟩ (.bool true) = X
    have k_1 := kk
    exact Vi
  case stop =>
    have k_1 := kk
    exact Vj
end
def rX (T : Nd) (d : Nat) : Bool := (T.pre d).all fun p => kl p.1
theorem s6 (T : Nd) (d : Nat) : rX T d = (kl T && aE (fun i => rX (T.kids i) (d + 1)) T.len) := by
 unfold rX
 rw [nQ, List.all_cons]
 congr 1
 unfold lY
 generalize T.len = n
 induction n with
 |zero => rfl
 |succ n ih => rw [List.range_succ, List.flatMap_append, List.all_append, ih]; simp [aE]
theorem Bd (T : Nd) : ∀ d e, rX T d = rX T e := by
 induction T with
 |nil => intro d e; rfl
 |mk k n s len kids ih =>
  intro d e
  rw [s6, s6]
  congr 1
  congr 1
  funext i
  exact ih i (d + 1) (e + 1)
def eL (T : Nd) : Bool := rX T 0
theorem Be (T : Nd) : eL T = (kl T && aE (fun i => eL (T.kids i)) T.len) := by
 unfold eL
 rw [s6]
 congr 1
 congr 1
 funext i
 exact Bd _ _ _
def fh (k : Int) : Bool := decide (22 ≤ k) && decide (k ≤ 29)
def gD (k : Int) : Bool := decide (4 ≤ k) && decide (k ≤ 21) && !decide (k = 16)
theorem twm (kk : Nat → Int) (c m d : Nat) : gC kk c (m + 1) d = if ep (kk d) c then gC kk c m (d + 1) + 1 else 0 := rfl
theorem tw0 (kk : Nat → Int) (c d : Nat) : gC kk c 0 d = 0 := rfl
theorem K9 (kk : Nat → Int) (c : Nat) : ∀ (m d : Nat), decide (gC kk c m d = m) = aE (fun i => ep (kk (d + i)) c) m
 |0, d => rfl
 |m + 1, d => by
  rw [Bool.eq_iff_iff, decide_eq_true_eq, dy]
  constructor
  ·intro h i hi
   exact o5 (m := m + 1) (by omega)
  ·intro h
   exact ys h lr (.inl rfl)
theorem JP (kk : Nat → Int) (c : Nat) : ∀ (m d : Nat), gC kk c m d ≤ m
 |0, d => Nat.le_refl _
 |m + 1, d => by
  rw [twm]; split
  ·have := JP kk c m (d + 1); omega
  ·omega
theorem lS (kk : Nat → Int) (len : Nat) (c : UInt8) : aY kk len 2 [c, 42] 0 = aE (fun i => ep (kk i) c.toNat) len := by
 have h : aY kk len 2 [c, 42] 0 = decide (0 + gC kk c.toNat (len - 0) 0 = len) := by
  simp [aY]
 rw [h]
 have := K9 kk c.toNat len 0
 simp only [Nat.zero_add, Nat.sub_zero] at this ⊢
 exact this
theorem iN (kk : Nat → Int) (len : Nat) : aY kk len 0 [] 0 = decide (len = 0) := by
 simp [aY, eq_comm]
theorem jU (kk : Nat → Int) (len : Nat) (c : UInt8) : aY kk len 1 [c] 0 = (decide (len = 1) && ep (kk 0) c.toNat) := by
 exact bI6
theorem qd (kk : Nat → Int) (len : Nat) (c c' : UInt8) (h1 : c' ≠ 63) (h2 : c' ≠ 42) : aY kk len 2 [c, c'] 0 = (decide (len = 2) && (ep (kk 0) c.toNat && ep (kk 1) c'.toNat)) := by
 rcases len with _ | _ | _ | n
 ·simp [aY, gC, h1, h2]
 ·cases h : ep (kk 0) c.toNat <;> simp [aY, gC, h, h1, h2]
 ·exact Vl
 ·exact Vl
theorem xE (kk : Nat → Int) (len : Nat) (c c' KG : UInt8) (h1 : c' ≠ 63) (h2 : c' ≠ 42) (h3 : KG ≠ 63) (h4 : KG ≠ 42) : aY kk len 3 [c, c', KG] 0 = (decide (len = 3) && (ep (kk 0) c.toNat && ep (kk 1) c'.toNat && ep (kk 2) KG.toNat)) := by
 rcases len with _ | _ | _ | _ | n
 ·simp [aY, gC, h1, h2]
 ·cases h : ep (kk 0) c.toNat <;> simp [aY, gC, h, h1, h2, h3, h4]
 ·cases h : ep (kk 0) c.toNat <;> cases h' : ep (kk 1) c'.toNat <;> simp [aY, gC, h, h', h1, h2, h3, h4]
 ·exact bI7
 ·exact bI7
theorem u6 (kk : Nat → Int) (len : Nat) (c : UInt8) : aY kk len 2 [c, 63] 0 = (decide (len = 0) || (decide (len = 1) && ep (kk 0) c.toNat)) := by
 exact bI6
theorem Bh (kk : Nat → Int) (len : Nat) : aY kk len 3 [101, 63, 98] 0 = ((decide (len = 1) && ep (kk 0) 98) || (decide (len = 2) && (ep (kk 0) 101 && ep (kk 1) 98))) := by
 have hd : ep (kk 0) 101 = true → ep (kk 0) 98 = false := fun h => by simp [ep] at h ⊢; omega
 rcases len with _ | _ | _ | n
 ·simp [aY, gC]
 ·cases h : ep (kk 0) 101 <;> cases h' : ep (kk 0) 98 <;> simp_all [aY, gC]
 ·exact Vm
 ·exact Vm
theorem Iq (kk : Nat → Int) (len : Nat) : aY kk len 4 [101, 98, 111, 63] 0 = (ep (kk 0) 101 && ep (kk 1) 98 && (decide (len = 2) || (decide (len = 3) && ep (kk 2) 111))) := by
 rcases len with _ | _ | _ | _ | n
 ·simp [aY, gC]
 ·cases h : ep (kk 0) 101 <;> simp [aY, gC, h]
 ·cases h : ep (kk 0) 101 <;> cases h' : ep (kk 1) 98 <;> simp [aY, gC, h, h']
 ·exact bI9
 ·exact bI9
theorem Bi (kk : Nat → Int) (len : Nat) : aY kk len 3 [112, 42, 98] 0 = (decide (1 ≤ len) && (aE (fun i => ep (kk i) 112) (len - 1) && ep (kk (len - 1)) 98)) := by
 have hd : ∀ k, ep k 112 = true → ep k 98 = false := fun k h => by simp [ep] at h ⊢; omega
 have h0 : aY kk len 3 [112, 42, 98] 0 = if gC kk 98 (min 1 (len - gC kk 112 len 0)) (gC kk 112 len 0) < 1 then false else decide (gC kk 112 len 0 + gC kk 98 (min 1 (len - gC kk 112 len 0)) (gC kk 112 len 0) = len) := by
  simp [aY]
 rw [h0]
 have hle := JP kk 112 len 0
 have hsp := fun i (hi : i < gC kk 112 len 0) => o5 (kk := kk) (c := 112) (m := len) (d := 0) (i := i) hi
 simp only [Nat.zero_add] at hsp
 have hof := fun t (h1 : ∀ i, i < t → ep (kk (0 + i)) 112 = true) (h2 : t ≤ len) (h3 : t = len ∨ ep (kk (0 + t)) 112 = false) => ys (kk := kk) (c := 112) (m := len) (t := t) (d := 0) h1 h2 h3
 simp only [Nat.zero_add] at hof
 rw [Bool.eq_iff_iff]
 generalize ht : gC kk 112 len 0 = t at *
 constructor
 ·intro h
  split at h
  ·cases h
  ·rename_i hn
   have bB : t < len := by
    rcases Nat.lt_or_ge t len with h | h
    ·exact h
    ·exfalso; apply hn; rw [show len - t = 0 by omega]; simp [gC]
   have hb : ep (kk t) 98 = true := by
    rw [show min 1 (len - t) = 0 + 1 by omega, twm] at hn
    cases hb : ep (kk t) 98 with
    |true => rfl
    |false => exfalso; apply hn; simp [hb]
   have h1 : gC kk 98 (min 1 (len - t)) t = 1 := by rw [show min 1 (len - t) = 0 + 1 by omega, twm]; simp [hb, tw0]
   rw [h1] at h
   have hl : len = t + 1 := by have := of_decide_eq_true h; omega
   subst hl
   simp only [Nat.add_sub_cancel, hb, Bool.and_true, Bool.and_eq_true, decide_eq_true_eq]
   exact ⟨by omega, eE hsp⟩
 ·intro h
  simp only [Bool.and_eq_true, decide_eq_true_eq] at h
  obtain ⟨h1, h2, h3⟩ := h
  have bj := dy.1 h2
  have hn : ep (kk (len - 1)) 112 = false := by
   cases hx : ep (kk (len - 1)) 112 with
   |false => rfl
   |true => rw [hd _ hx] at h3; cases h3
  have := hof (len - 1) bj (by omega) (.inr hn)
  subst this
  have hw : gC kk 98 (min 1 (len - (len - 1))) (len - 1) = 1 := by rw [show min 1 (len - (len - 1)) = 0 + 1 by omega, twm]; simp [h3, tw0]
  rw [hw]
  simp
  omega
theorem kS (e st : Nat → Bool) (kk : Nat → Int) (len : Nat) (c : UInt8) : aK e st kk len ⟨#[c]⟩ = (decide (len = 1) && b9 e st kk c.toNat 0) := by
 unfold aK
 show (decide (len = 1) && (aE _ 1)) = _
 simp [aE]
theorem pz (e st : Nat → Bool) (kk : Nat → Int) (len : Nat) (c c' : UInt8) : aK e st kk len ⟨#[c, c']⟩ = (decide (len = 2) && (b9 e st kk c.toNat 0 && b9 e st kk c'.toNat 1)) := by
 unfold aK
 show (decide (len = 2) && (aE _ 2)) = _
 simp [aE]
theorem CQ (e st : Nat → Bool) (kk : Nat → Int) (len : Nat) (c c' KG : UInt8) : aK e st kk len ⟨#[c, c', KG]⟩ = (decide (len = 3) && (b9 e st kk c.toNat 0 && b9 e st kk c'.toNat 1 && b9 e st kk KG.toNat 2)) := by
 unfold aK
 show (decide (len = 3) && (aE _ 3)) = _
 simp [aE]
section
def rhs (k n : Int) (s : ByteArray) (len : Nat) (kk : Nat → Int) (g : Nat → Bool) : Bool := qV k n && Dl k n s && aY kk len (fT k n).size (fT k n).data.toList 0 && aE g len
theorem BE (k : Int) : ep k 101 = fh k := by simp [ep, fh]
theorem ofS (k : Int) : ep k 115 = gD k := by simp [ep, gD]
theorem AD (k : Int) : ep k 98 = decide (k = 4) := by simp [ep]
theorem ofC (k : Int) : ep k 99 = decide (k = 25) := by simp [ep]
theorem ofA (k : Int) : ep k 97 = (decide (k = 25) || decide (k = 29)) := by simp [ep]
theorem ofO (k : Int) : ep k 111 = (decide (k = 4) || decide (k = 10)) := by simp [ep]
theorem ofW (k : Int) : ep k 119 = decide (k = 16) := by simp [ep]
theorem ofF (k : Int) : ep k 102 = decide (k = 2) := by simp [ep]
theorem ofP (k : Int) : ep k 112 = decide (k = 3) := by simp [ep]
theorem lU (p g : Nat → Bool) : ∀ n, aE (fun i => p i && g i) n = (aE p n && aE g n)
 |0 => rfl
 |n + 1 => by
  simp only [aE, lU p g n]
  cases aE p n <;> cases p n <;> cases aE g n <;> cases g n <;> rfl
theorem rF (s : ByteArray) (h : aR s = true) : al s = false := by
 unfold al
 rw [mM]
 cases hl : s.data.toList with
 |nil =>
  have hz : s.size = 0 := by rw [← fu, hl]; rfl
  simp [aR, dt, hz] at h
 |cons => rfl
section
variable (n : Int) (s : ByteArray) (len : Nat) (kk : Nat → Int) (g : Nat → Bool)
theorem PS : cw 22 n s len (fun i => fh (kk i) && g i) (fun i => gD (kk i) && g i) kk = rhs 22 n s len kk g := by
 show (al s && (decide (0 ≤ n) && decide (n ≤ 999999999999999999) && decide (len = 0))) = (decide (0 ≤ n) && decide (n ≤ 999999999999999999) && al s && aY kk len 0 [] 0 && aE g len)
 rw [iN]
 rcases len with _ | len <;> cases al s <;> simp [aE]
theorem PQ : cw 23 n s len (fun i => fh (kk i) && g i) (fun i => gD (kk i) && g i) kk = rhs 23 n s len kk g := by
 show (al s && ((decide (n = 0) || decide (n = 1)) && decide (len = 0))) = ((decide (n = 0) || decide (n = 1)) && al s && aY kk len 0 [] 0 && aE g len)
 rw [iN]
 rcases len with _ | len <;> cases al s <;> simp [aE]
theorem PP : cw 24 n s len (fun i => fh (kk i) && g i) (fun i => gD (kk i) && g i) kk = rhs 24 n s len kk g := by
 show (decide (n = 0) && (aR s && decide (len = 0))) = (decide (n = 0) && aR s && aY kk len 0 [] 0 && aE g len)
 rw [iN]
 rcases len with _ | len <;> cases aR s <;> simp [aE]
theorem PO : cw 25 n s len (fun i => fh (kk i) && g i) (fun i => gD (kk i) && g i) kk = rhs 25 n s len kk g := by
 show (decide (n = 0) && (aR s && aE (fun i => fh (kk i) && g i) len)) = (decide (n = 0) && aR s && aY kk len 2 [101, 42] 0 && aE g len)
 rw [lS, lU]
 simp only [show (101 : UInt8).toNat = 101 from rfl, BE]
 cases aR s <;> cases aE (fun i => fh (kk i)) len <;> simp
theorem PN : cw 26 n s len (fun i => fh (kk i) && g i) (fun i => gD (kk i) && g i) kk = rhs 26 n s len kk g := by
 show (al s && decide (n = 0) && (decide (len < 2) && aE (fun i => fh (kk i) && g i) len)) = (decide (n = 0) && al s && aY kk len 2 [101, 63] 0 && aE g len)
 rw [u6]
 simp only [show (101 : UInt8).toNat = 101 from rfl, BE]
 by_cases h0 : len = 0
 ·subst h0
  cases decide (n = 0) <;> cases al s <;> rfl
 by_cases h1 : len = 1
 ·subst h1
  simp only [aE, decide_true, Bool.true_and]
  exact Bu
 ·have h2 : ¬ len < 2 := by omega
  simp [h0, h1, h2]
theorem PM : cw 27 n s len (fun i => fh (kk i) && g i) (fun i => gD (kk i) && g i) kk = rhs 27 n s len kk g := by
 show (decide (n = 0) && ((s.toList == [45] || s.toList == [33]) && aK (fun i => fh (kk i) && g i) (fun i => gD (kk i) && g i) kk len ⟨#[101]⟩)) = (decide (n = 0) && (s.toList == [45] || s.toList == [33]) && aY kk len 1 [101] 0 && aE g len)
 rw [jU, kS]
 simp only [show (101 : UInt8).toNat = 101 from rfl, BE, b9]
 by_cases hl : len = 1
 ·subst hl
  simp only [aE, decide_true, Bool.true_and]
  cases decide (n = 0) <;> cases (s.toList == [45] || s.toList == [33]) <;> cases fh (kk 0) <;> cases g 0 <;> rfl
 ·simp [hl]
theorem PL : cw 28 n s len (fun i => fh (kk i) && g i) (fun i => gD (kk i) && g i) kk = rhs 28 n s len kk g := by
 show (decide (n = 0) && (decide (0 < iS s) && aK (fun i => fh (kk i) && g i) (fun i => gD (kk i) && g i) kk len ⟨#[101, 101]⟩)) = (decide (n = 0) && decide (0 < iS s) && aY kk len 2 [101, 101] 0 && aE g len)
 rw [qd _ _ _ _ (by decide) (by decide), pz]
 simp only [show (101 : UInt8).toNat = 101 from rfl, BE, b9]
 by_cases hl : len = 2
 ·subst hl
  simp only [aE, decide_true, Bool.true_and]
  cases decide (n = 0) <;> cases decide (0 < iS s) <;> cases fh (kk 0) <;> cases fh (kk 1) <;> cases g 0 <;> cases g 1 <;> rfl
 ·simp [hl]
theorem PK : cw 29 n s len (fun i => fh (kk i) && g i) (fun i => gD (kk i) && g i) kk = rhs 29 n s len kk g := by
 exact bI2
variable (cs : Nat → Bool)
theorem rhs4 : ba 4 n s len (fun i => fh (kk i) && g i) (fun i => gD (kk i) && g i) cs kk = rhs 4 n s len kk g := by
 show (al s && decide (n = 0) && aE (fun i => gD (kk i) && g i) len) = (decide (n = 0) && al s && aY kk len 2 [115, 42] 0 && aE g len)
 rw [lS, lU]
 simp only [show (115 : UInt8).toNat = 115 from rfl, ofS]
 cases decide (n = 0) <;> cases al s <;> cases aE (fun i => gD (kk i)) len <;> cases aE g len <;> rfl
theorem rhs5 : ba 5 n s len (fun i => fh (kk i) && g i) (fun i => gD (kk i) && g i) cs kk = rhs 5 n s len kk g := by
 exact bI0
theorem rhs6 : ba 6 n s len (fun i => fh (kk i) && g i) (fun i => gD (kk i) && g i) cs kk = rhs 6 n s len kk g := by
 exact bI0
theorem rhs7 : ba 7 n s len (fun i => fh (kk i) && g i) (fun i => gD (kk i) && g i) cs kk = rhs 7 n s len kk g := by
 show (!al s && aR s && ((decide (n = 1) || decide (n = -1)) && decide (len = 0))) = ((decide (n = 1) || decide (n = -1)) && aR s && aY kk len 0 [] 0 && aE g len)
 rw [iN]
 have dr := rF s
 by_cases hl : len = 0
 ·subst hl
  cases dc : aR s
  ·cases (decide (n = 1) || decide (n = -1)) <;> cases al s <;> rfl
  rw [dr dc]
  cases (decide (n = 1) || decide (n = -1)) <;> rfl
 ·simp [hl]
theorem rhs8 : ba 8 n s len (fun i => fh (kk i) && g i) (fun i => gD (kk i) && g i) cs kk = rhs 8 n s len kk g := by
 show (al s && decide (n = 0) && aK (fun i => fh (kk i) && g i) (fun i => gD (kk i) && g i) kk len ⟨#[101, 101]⟩) = (decide (n = 0) && al s && aY kk len 2 [101, 101] 0 && aE g len)
 rw [qd _ _ _ _ (by decide) (by decide), pz]
 simp only [show (101 : UInt8).toNat = 101 from rfl, BE, b9]
 by_cases hl : len = 2
 ·subst hl
  simp only [aE, decide_true, Bool.true_and]
  cases decide (n = 0) <;> cases al s <;> cases fh (kk 0) <;> cases fh (kk 1) <;> cases g 0 <;> cases g 1 <;> rfl
 ·simp [hl]
theorem PX : ba 19 n s len (fun i => fh (kk i) && g i) (fun i => gD (kk i) && g i) cs kk = rhs 19 n s len kk g := by
 exact bI2
theorem PW : ba 20 n s len (fun i => fh (kk i) && g i) (fun i => gD (kk i) && g i) cs kk = rhs 20 n s len kk g := by
 exact bI2
theorem PU : ba 21 n s len (fun i => fh (kk i) && g i) (fun i => gD (kk i) && g i) cs kk = rhs 21 n s len kk g := by
 exact bI2
theorem EV (k : Int) (h : (decide (k = 25) || decide (k = 29)) = true) : fh k = true := by
 simp [fh] at h ⊢; omega
theorem rhs9 : ba 9 n s len (fun i => fh (kk i) && g i) (fun i => gD (kk i) && g i) cs kk = rhs 9 n s len kk g := by
 show (al s && decide (n = 0) && (aK (fun i => fh (kk i) && g i) (fun i => gD (kk i) && g i) kk len ⟨#[101]⟩ && (decide (kk 0 = 25) || decide (kk 0 = 29)))) = (decide (n = 0) && al s && aY kk len 1 [97] 0 && aE g len)
 rw [jU, kS]
 simp only [show (101 : UInt8).toNat = 101 from rfl, show (97 : UInt8).toNat = 97 from rfl, ofA, b9]
 by_cases hl : len = 1
 ·subst hl
  simp only [aE, decide_true, Bool.true_and, if_true]
  have hc := EV (kk 0)
  cases hx : (decide (kk 0 = 25) || decide (kk 0 = 29))
  ·exact Bu
  ·rw [hc hx]
   exact Nx
 ·simp [hl]
theorem SD (k : Int) (h : decide (k = 25) = true) : fh k = true := by
 simp [fh] at h ⊢; omega
theorem xR (k : Int) (h : decide (k = 4) = true) : gD k = true := by
 simp [gD] at h ⊢; omega
theorem blk2 (k : Int) (h : (decide (k = 4) || decide (k = 10)) = true) : gD k = true := by
 simp [gD] at h ⊢; omega
theorem P4 : ba 13 n s len (fun i => fh (kk i) && g i) (fun i => gD (kk i) && g i) cs kk = rhs 13 n s len kk g := by
 exact bI1
theorem P3 : ba 14 n s len (fun i => fh (kk i) && g i) (fun i => gD (kk i) && g i) cs kk = rhs 14 n s len kk g := by
 exact bI1
theorem PZ : ba 17 n s len (fun i => fh (kk i) && g i) (fun i => gD (kk i) && g i) cs kk = rhs 17 n s len kk g := by
 exact bI4
theorem PY : ba 18 n s len (fun i => fh (kk i) && g i) (fun i => gD (kk i) && g i) cs kk = rhs 18 n s len kk g := by
 exact bI4
theorem P5 : ba 12 n s len (fun i => fh (kk i) && g i) (fun i => gD (kk i) && g i) cs kk = rhs 12 n s len kk g := by
 show (al s && decide (n = 0) && (decide (len = 0) || aK (fun i => fh (kk i) && g i) (fun i => gD (kk i) && g i) kk len ⟨#[101]⟩)) = (decide (n = 0) && al s && aY kk len 2 [101, 63] 0 && aE g len)
 rw [u6, kS]
 simp only [show (101 : UInt8).toNat = 101 from rfl, BE, b9]
 by_cases h0 : len = 0
 ·subst h0
  cases decide (n = 0) <;> cases al s <;> rfl
 by_cases h1 : len = 1
 ·subst h1
  simp only [aE]
  exact Bu
 ·simp [h0, h1]
theorem P0 (vH : cs = fun i => decide (kk i = 16) && g i) : ba 15 n s len (fun i => fh (kk i) && g i) (fun i => gD (kk i) && g i) cs kk = rhs 15 n s len kk g := by
 subst vH
 show (al s && decide (n = 0) && aE (fun i => decide (kk i = 16) && g i) len) = (decide (n = 0) && al s && aY kk len 2 [119, 42] 0 && aE g len)
 rw [lS, lU]
 simp only [show (119 : UInt8).toNat = 119 from rfl, ofW]
 cases decide (n = 0) <;> cases al s <;> cases aE (fun i => decide (kk i = 16)) len <;> cases aE g len <;> rfl
theorem P7 : ba 10 n s len (fun i => fh (kk i) && g i) (fun i => gD (kk i) && g i) cs kk = rhs 10 n s len kk g := by
 show (al s && decide (n = 0) && (aK (fun i => fh (kk i) && g i) (fun i => gD (kk i) && g i) kk len ⟨#[101, 98]⟩ || aK (fun i => fh (kk i) && g i) (fun i => gD (kk i) && g i) kk len ⟨#[101, 98, 105]⟩)) = (decide (n = 0) && al s && aY kk len 4 [101, 98, 111, 63] 0 && aE g len)
 rw [Iq, pz, CQ]
 simp only [show (101 : UInt8).toNat = 101 from rfl, BE, show (98 : UInt8).toNat = 98 from rfl, show (105 : UInt8).toNat = 105 from rfl, AD, ofO, b9]
 have hb1 := xR (kk 1)
 have hb2 := blk2 (kk 2)
 by_cases h2 : len = 2
 ·subst h2
  simp only [aE]
  cases hx : decide (kk 1 = 4)
  ·exact Ny
  ·rw [hb1 hx]
   exact Ny
 by_cases h3 : len = 3
 ·subst h3
  simp only [aE]
  cases hx : decide (kk 1 = 4)
  ·exact Bu
  ·rw [hb1 hx]
   cases hy : (decide (kk 2 = 4) || decide (kk 2 = 10))
   ·exact Ny
   ·rw [hb2 hy]
    cases decide (n = 0) <;> cases al s <;> cases fh (kk 0) <;> cases g 0 <;> cases g 1 <;> cases g 2 <;> rfl
 ·simp [h2, h3]
theorem P6 : ba 11 n s len (fun i => fh (kk i) && g i) (fun i => gD (kk i) && g i) cs kk = rhs 11 n s len kk g := by
 show (al s && decide (n = 0) && (aK (fun i => fh (kk i) && g i) (fun i => gD (kk i) && g i) kk len ⟨#[98]⟩ || aK (fun i => fh (kk i) && g i) (fun i => gD (kk i) && g i) kk len ⟨#[101, 98]⟩)) = (decide (n = 0) && al s && aY kk len 3 [101, 63, 98] 0 && aE g len)
 rw [Bh, kS, pz]
 simp only [show (101 : UInt8).toNat = 101 from rfl, BE, show (98 : UInt8).toNat = 98 from rfl, AD, b9]
 have iY := xR (kk 0)
 have hb1 := xR (kk 1)
 by_cases h1 : len = 1
 ·subst h1
  simp only [aE]
  cases hx : decide (kk 0 = 4)
  ·exact Bu
  ·rw [iY hx]
   exact Bu
 by_cases h2 : len = 2
 ·subst h2
  simp only [aE]
  cases hx : decide (kk 1 = 4)
  ·exact bI8
  ·rw [hb1 hx]
   exact bI8
 ·simp [h1, h2]
end
end
theorem jT (T : Nd) : eL T = rhs T.kind T.num T.name T.len T.kk (fun i => eL (T.kids i)) := Be T
theorem ES (n : Int) (s : ByteArray) (len : Nat) (kk : Nat → Int) (g : Nat → Bool) : iz 16 n s len (fun i => fh (kk i) && g i) (fun i => gD (kk i) && g i) kk = rhs 16 n s len kk g := by
  have e1 : iz 16 n s len (fun i => fh (kk i) && g i) (fun i => gD (kk i) && g i) kk = ((al s || (decide (n = 1) && aR s)) &&
    (if n = 0 then aK (fun i => fh (kk i) && g i) (fun i => gD (kk i) && g i) kk len ⟨#[98]⟩ else if n = 1 then aK (fun i => fh (kk i) && g i) (fun i => gD (kk i) && g i) kk len ⟨#[101, 98]⟩ else if n = 2 then aK (fun i => fh (kk i) && g i) (fun i => gD (kk i) && g i) kk len ⟨#[101, 101, 98]⟩ else false)) := rfl
  have e2 : rhs 16 n s len kk g = (decide (0 ≤ n) && decide (n ≤ 2) && (al s || (decide (n = 1) && aR s)) && aY kk len (fT 16 n).size (fT 16 n).data.toList 0 && aE g len) := rfl
  rw [e1, e2]
  by_cases h0 : n = 0
  · subst h0
    show ((al s || (false && aR s)) && aK _ _ kk len ⟨#[98]⟩) = (true && true && (al s || (false && aR s)) && aY kk len 1 [98] 0 && aE g len)
    rw [jU, kS]
    simp only [show (98 : UInt8).toNat = 98 from rfl, AD, b9]
    have hb := xR (kk 0)
    by_cases hl : len = 1
    · subst hl
      simp only [aE]
      cases hx : decide (kk 0 = 4)
      · cases al s <;> cases g 0 <;> rfl
      · rw [hb hx]; cases al s <;> cases g 0 <;> rfl
    · simp [hl]
  by_cases h1 : n = 1
  · subst h1
    show ((al s || (true && aR s)) && aK _ _ kk len ⟨#[101, 98]⟩) = (true && true && (al s || (true && aR s)) && aY kk len 2 [101, 98] 0 && aE g len)
    rw [qd _ _ _ _ (by decide) (by decide), pz]
    simp only [show (98 : UInt8).toNat = 98 from rfl, show (101 : UInt8).toNat = 101 from rfl, AD, BE, b9]
    have hb := xR (kk 1)
    by_cases hl : len = 2
    · subst hl
      simp only [aE]
      cases hx : decide (kk 1 = 4)
      · cases (al s || (true && aR s)) <;> cases fh (kk 0) <;> cases g 0 <;> cases g 1 <;> rfl
      · rw [hb hx]; cases (al s || (true && aR s)) <;> cases fh (kk 0) <;> cases g 0 <;> cases g 1 <;> rfl
    · simp [hl]
  by_cases h2 : n = 2
  · subst h2
    show ((al s || (false && aR s)) && aK _ _ kk len ⟨#[101, 101, 98]⟩) = (true && true && (al s || (false && aR s)) && aY kk len 3 [101, 101, 98] 0 && aE g len)
    rw [xE _ _ _ _ _ (by decide) (by decide) (by decide) (by decide), CQ]
    simp only [show (98 : UInt8).toNat = 98 from rfl, show (101 : UInt8).toNat = 101 from rfl, AD, BE, b9]
    have hb := xR (kk 2)
    by_cases hl : len = 3
    · subst hl
      simp only [aE]
      cases hx : decide (kk 2 = 4)
      · cases al s <;> cases fh (kk 0) <;> cases fh (kk 1) <;> cases g 0 <;> cases g 1 <;> cases g 2 <;> rfl
      · rw [hb hx]; cases al s <;> cases fh (kk 0) <;> cases fh (kk 1) <;> cases g 0 <;> cases g 1 <;> cases g 2 <;> rfl
    · simp [hl]
  · rw [if_neg h0, if_neg h1, if_neg h2, Bool.and_false]
    have : (decide (0 ≤ n) && decide (n ≤ 2)) = false := by
      rw [Bool.and_eq_false_iff]
      by_cases hx : 0 ≤ n
      · exact .inr (decide_eq_false (by omega))
      · exact .inl (decide_eq_false hx)
    rw [this]; rfl
theorem eqv (T : Nd) : T.eOk = (fh T.kind && eL T) ∧ T.sOk = (gD T.kind && eL T) ∧ T.cOk = (decide (T.kind = 16) && eL T) := by
 have step : ∀ T : Nd, (∀ i, (T.kids i).eOk = (fh (T.kids i).kind && eL (T.kids i)) ∧ (T.kids i).sOk = (gD (T.kids i).kind && eL (T.kids i)) ∧ (T.kids i).cOk = (decide ((T.kids i).kind = 16) && eL (T.kids i))) →
   T.eOk = (fh T.kind && eL T) ∧ T.sOk = (gD T.kind && eL T) ∧ T.cOk = (decide (T.kind = 16) && eL T) := by
  intro T ih
  have hE : (fun i => (T.kids i).eOk) = fun i => fh (T.kk i) && eL (T.kids i) := funext fun i => (ih i).1
  have hS : (fun i => (T.kids i).sOk) = fun i => gD (T.kk i) && eL (T.kids i) := funext fun i => (ih i).2.1
  have hC : (fun i => (T.kids i).cOk) = fun i => decide (T.kk i = 16) && eL (T.kids i) := funext fun i => (ih i).2.2
  refine ⟨?_, ?_, ?_⟩
  ·rw [dd, hE, hS, jT]
   by_cases Im : T.kind = 22
   ·rw [Im]; exact PS _ _ _ _ _
   by_cases Bc : T.kind = 23
   ·rw [Bc]; exact PQ _ _ _ _ _
   by_cases Il : T.kind = 24
   ·rw [Il]; exact PP _ _ _ _ _
   by_cases FJ : T.kind = 25
   ·rw [FJ]; exact PO _ _ _ _ _
   by_cases Ex : T.kind = 26
   ·rw [Ex]; exact PN _ _ _ _ _
   by_cases Ik : T.kind = 27
   ·rw [Ik]; exact PM _ _ _ _ _
   by_cases Ku : T.kind = 28
   ·rw [Ku]; exact PL _ _ _ _ _
   by_cases BP : T.kind = 29
   ·rw [BP]; exact PK _ _ _ _ _
   have hf : fh T.kind = false := by
    cases hx : fh T.kind with
    |false => rfl
    |true => exfalso; simp [fh] at hx; omega
   rw [hf, Bool.false_and]
   unfold cw
   simp only [Im, Bc, Il, FJ, Ex, Ik, Ku, BP, if_false]
  ·rw [bH, hE, hS, hC, jT]
   by_cases h4 : T.kind = 4
   ·rw [h4]; exact rhs4 _ _ _ _ _ _
   by_cases h5 : T.kind = 5
   ·rw [h5]; exact rhs5 _ _ _ _ _ _
   by_cases h6 : T.kind = 6
   ·rw [h6]; exact rhs6 _ _ _ _ _ _
   by_cases h7 : T.kind = 7
   ·rw [h7]; exact rhs7 _ _ _ _ _ _
   by_cases h8 : T.kind = 8
   ·rw [h8]; exact rhs8 _ _ _ _ _ _
   by_cases h9 : T.kind = 9
   ·rw [h9]; exact rhs9 _ _ _ _ _ _
   by_cases rW : T.kind = 10
   ·rw [rW]; exact P7 _ _ _ _ _ _
   by_cases mS : T.kind = 11
   ·rw [mS]; exact P6 _ _ _ _ _ _
   by_cases rV : T.kind = 12
   ·rw [rV]; exact P5 _ _ _ _ _ _
   by_cases OO : T.kind = 13
   ·rw [OO]; exact P4 _ _ _ _ _ _
   by_cases ON : T.kind = 14
   ·rw [ON]; exact P3 _ _ _ _ _ _
   by_cases qK : T.kind = 17
   ·rw [qK]; exact PZ _ _ _ _ _ _
   by_cases Ky : T.kind = 18
   ·rw [Ky]; exact PY _ _ _ _ _ _
   by_cases Kx : T.kind = 19
   ·rw [Kx]; exact PX _ _ _ _ _ _
   by_cases Kv : T.kind = 20
   ·rw [Kv]; exact PW _ _ _ _ _ _
   by_cases xy : T.kind = 21
   ·rw [xy]; exact PU _ _ _ _ _ _
   by_cases rU : T.kind = 15
   ·rw [rU]; exact P0 _ _ _ _ _ _ rfl
   have hf : gD T.kind = false := by
    cases hx : gD T.kind with
    |false => rfl
    |true => exfalso; simp [gD] at hx; omega
   rw [hf, Bool.false_and]
   unfold ba
   simp only [h4, h5, h6, h7, h8, h9, rW, mS, rV, OO, ON, qK, Ky, Kx, Kv, xy, rU, or_self, if_false]
  ·rw [mO, hE, hS, jT]
   by_cases ML : T.kind = 16
   ·rw [ML]; exact ES _ _ _ _ _
   ·unfold iz
    simp [ML]
 induction T with
 |nil => exact step .nil fun i => ⟨rfl, rfl, rfl⟩
 |mk k n s len kids ih => exact step _ fun i => ih i
theorem wi (P : Nd) : fF P = (decide (P.kind = 3) && eL P) := by
 rw [jT]
 by_cases hk : P.kind = 3
 ·unfold fF
  rw [hk]
  show (true && aR P.name && (decide (1 ≤ P.num) && decide (P.num ≤ 3)) && decide (P.len = 0)) = (true && ((decide (1 ≤ P.num) && decide (P.num ≤ 3)) && aR P.name && aY P.kk P.len 0 [] 0 && aE _ P.len))
  rw [iN]
  by_cases hl : P.len = 0
  ·rw [hl]
   cases aR P.name <;> cases (decide (1 ≤ P.num) && decide (P.num ≤ 3)) <;> rfl
  ·simp [hl]
 ·unfold fF; simp [hk]
theorem Bg (T : Nd) : cZ T = (decide (T.kind = 2) && eL T) := by
 rw [jT]
 by_cases hk : T.kind = 2
 ·unfold cZ
  rw [hk]
  show (true && aR T.name && (decide (0 ≤ T.num) && decide (T.num ≤ 3)) && decide (1 ≤ T.len) && (aE (fun i => fF (T.kids i)) (T.len - 1) && (decide ((T.kids (T.len - 1)).kind = 4) && (T.kids (T.len - 1)).sOk))) =
   (true && ((decide (0 ≤ T.num) && decide (T.num ≤ 3)) && aR T.name && aY T.kk T.len 3 [112, 42, 98] 0 && aE (fun i => eL (T.kids i)) T.len))
  rw [Bi, (eqv _).2.1]
  have hp : (fun i => fF (T.kids i)) = fun i => decide (T.kk i = 3) && eL (T.kids i) := funext fun i => wi _
  rw [hp, lU]
  simp only [ofP, AD]
  by_cases hl : 1 ≤ T.len
  ·obtain ⟨m, hm⟩ : ∃ m, T.len = m + 1 := ⟨T.len - 1, by omega⟩
   rw [hm]
   show _ = (true && ((decide (0 ≤ T.num) && decide (T.num ≤ 3)) && aR T.name && (decide (1 ≤ m + 1) && (aE (fun i => decide (T.kk i = 3)) m && decide (T.kk m = 4))) && (aE (fun i => eL (T.kids i)) m && eL (T.kids m))))
   have hb := xR (T.kids m).kind
   have Kg : T.kk m = (T.kids m).kind := rfl
   rw [Kg]
   simp only [Nat.add_sub_cancel]
   cases hx : decide ((T.kids m).kind = 4)
   ·exact bI3
   ·rw [hb hx]
    exact bI3
  ·simp [hl]
 ·unfold cZ; simp [hk]
theorem Cl (T : Nd) : iw T = dh T := by
 have hg : ((T.pre 0).all fun p => kl p.1) = eL T := rfl
 unfold iw dh
 rw [hg, jT]
 by_cases hk : T.kind = 1
 ·rw [hk]
  show (true && decide (T.size ≤ 600) && (decide (T.num = 0) && al T.name && aY T.kk T.len 2 [102, 42] 0 && aE (fun i => eL (T.kids i)) T.len)) = (decide (T.size ≤ 600) && true && decide (T.num = 0) && al T.name && aE (fun i => cZ (T.kids i)) T.len)
  have hp : (fun i => cZ (T.kids i)) = fun i => decide (T.kk i = 2) && eL (T.kids i) := funext fun i => Bg _
  rw [hp, lU, lS]
  simp only [show (102 : UInt8).toNat = 102 from rfl, ofF]
  cases decide (T.size ≤ 600) <;> cases decide (T.num = 0) <;> cases al T.name <;> cases aE (fun i => decide (T.kk i = 2)) T.len <;> cases aE (fun i => eL (T.kids i)) T.len <;> rfl
 ·simp [hk]
end Go.Proofs.YteaocammohcgoaaGreatDoor
