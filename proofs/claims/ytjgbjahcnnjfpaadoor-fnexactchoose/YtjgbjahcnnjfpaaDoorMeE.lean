/- The program's wovenNumbers: whether a tree is woven, and how many numbers it has. -/
import Derived.Test.YtjgbjahcnnjfpaaDoorMeD
import Derived.Test.YtjgbjahcnnjfpaaDoorMeC
import Derived.Test.YtjgbjahcnnjfpaaDoorMcD
import Derived.Laws.EntriesVeiled
set_option linter.unusedVariables false
namespace Go.Proofs.YtjgbjahcnnjfpaaDoor
open Go.RowKit Go.Shelf
attribute [local go_sem] Oper.semAt_some

def wovB (T : Nd) : Bool := mostB T 6000 && (decide (¬ rightT T 1 = -1) && (decide (rightT T 1 ≤ 401) && implB (chooseT 0 T)))
def wovN (T : Nd) : Int := if wovB T = true then rightT T 1 - 1 else 0
theorem wov_big {T : Nd} (h : mostB T 6000 = false) : wovB T = false := by unfold wovB; rw [h]; rfl
theorem wov_unfit {T : Nd} {A B : List (Nd × Nat)} {p : Nd × Nat} (h : A ++ p :: B = T.pre 0) (hk : p.1.kind = 30) (hf : ¬ fitP p.1 (numL A 1)) : wovB T = false := by
  have : rightT T 1 = -1 := by
    by_cases e : rightT T 1 = -1
    · exact e
    · have := ((right_runs T 0 1 (by omega)).1).2 e
      rw [← h, okL_app] at this
      exact absurd (this.2.1 hk) hf
  unfold wovB
  rw [this]
  simp
theorem wov_many {T : Nd} (h : 401 < rightT T 1) : wovB T = false := by
  unfold wovB
  rw [decide_eq_false (show ¬ rightT T 1 ≤ 401 by omega)]
  simp
theorem wov_tree {T : Nd} (h : implB (chooseT 0 T) = false) : wovB T = false := by unfold wovB; rw [h]; simp
theorem wov_yes {T : Nd} (h1 : mostB T 6000 = true) (h2 : ¬ rightT T 1 = -1) (h3 : rightT T 1 ≤ 401) (h4 : implB (chooseT 0 T) = true) : wovB T = true := by
  unfold wovB
  rw [h1, h4, decide_eq_true h2, decide_eq_true h3]; rfl

theorem pair_ret {a b : Int} {c d : Bool} (h1 : a = b) (h2 : c = d) : Ending.returned (.tuple #[.int .i64 a, .bool c]) = .returned (.tuple #[.int .i64 b, .bool d]) := by rw [h1, h2]

theorem fit_no {nb : Nat} {W w' : World} (hnb : nb < W.heap.size) (h : Below W.heap.size W w' ∨ ∃ y, Below W.heap.size (W.setCell ⟨nb, 0, none⟩ y) w') : KeepsOthers W w' ∧ Below nb W w' ∧ W.heap.size ≤ w'.heap.size := by
  rcases h with h | ⟨y, h⟩
  · exact ⟨keeps_below h, h.mono (by omega), h.size⟩
  · have hz : (W.setCell ⟨nb, 0, none⟩ y).heap.size = W.heap.size := by simp only [World.setCell, Array.size_modify]
    refine ⟨(KeepsOthers.setCell _ _ _).trans (keeps_below (by rw [hz]; exact h)), ((Below.refl nb W).setCell (p := ⟨nb, 0, none⟩) (Nat.le_refl _) y).trans (h.mono (by omega)), by have := h.size; omega⟩
theorem end_two {w W : World} {D : Nat} {x x' : Value} {y y' : Value} (hb : Below w.heap.size w W) (h1 : Boxed W (w.heap.size + 1) 3 x) (h2 : Boxed W (w.heap.size + 1 + 1) 4 y) (hD : w.heap.size + 3 ≤ D) (hK : W.heap[D]? = some (.deferred (some []))) :
    Below w.heap.size w ((W.setCell ⟨w.heap.size + 1, 0, none⟩ x').setCell ⟨w.heap.size + 1 + 1, 0, none⟩ y') ∧ Boxed ((W.setCell ⟨w.heap.size + 1, 0, none⟩ x').setCell ⟨w.heap.size + 1 + 1, 0, none⟩ y') (w.heap.size + 1) 3 x' ∧ Boxed ((W.setCell ⟨w.heap.size + 1, 0, none⟩ x').setCell ⟨w.heap.size + 1 + 1, 0, none⟩ y') (w.heap.size + 1 + 1) 4 y' ∧
      ((W.setCell ⟨w.heap.size + 1, 0, none⟩ x').setCell ⟨w.heap.size + 1 + 1, 0, none⟩ y').heap[D]? = some (.deferred (some [])) ∧ ((W.setCell ⟨w.heap.size + 1, 0, none⟩ x').setCell ⟨w.heap.size + 1 + 1, 0, none⟩ y').heap.size = W.heap.size := by
  have R : Boxed (W.setCell ⟨w.heap.size + 1, 0, none⟩ x') (w.heap.size + 1 + 1) 4 y := (Below.heap_setCell _ _ _ _ (by show w.heap.size + 1 + 1 ≠ w.heap.size + 1; omega)).trans h2
  refine ⟨(hb.setCell (p := ⟨w.heap.size + 1, 0, none⟩) (by show w.heap.size ≤ w.heap.size + 1; omega) _).setCell (p := ⟨w.heap.size + 1 + 1, 0, none⟩) (by show w.heap.size ≤ w.heap.size + 1 + 1; omega) _, ?_, R.set y', ?_, by simp only [World.setCell, Array.size_modify]⟩
  · exact (Below.heap_setCell _ _ _ _ (by show w.heap.size + 1 ≠ w.heap.size + 1 + 1; omega)).trans (h1.set x')
  · exact (Below.heap_setCell _ _ _ _ (by show D ≠ w.heap.size + 1 + 1; omega)).trans ((Below.heap_setCell _ _ _ _ (by show D ≠ w.heap.size + 1; omega)).trans hK)

structure WvI (w w1 : World) (o : Obj) (T : Nd) (pre : List Ent) (W : World) : Prop where
  below : Below w.heap.size w W
  node : W.heap[w.heap.size]? = some o
  num : Boxed W (w.heap.size + 1) 3 (.int .i64 0)
  okb : Boxed W (w.heap.size + 1 + 1) 4 (.bool false)
  cnt : Boxed W w1.heap.size 3 (.int .i64 (numL (pre.map key) 1))
  fnb : Boxed W (w1.heap.size + 1) 65 (.func (.func 57) #[] #[.pointer (some ⟨w1.heap.size, 0, none⟩)])
  ok : okL (pre.map key) 1
  size : w1.heap.size + 5 ≤ W.heap.size
structure WvX (w w1 : World) (T : Nd) (c : Code) (W : World) : Prop where
  ret : c = .ret
  below : Below w.heap.size w W
  num : Boxed W (w.heap.size + 1) 3 (.int .i64 0)
  okb : Boxed W (w.heap.size + 1 + 1) 4 (.bool false)
  bad : wovB T = false
  size : w1.heap.size + 5 ≤ W.heap.size

set_option maxHeartbeats 8000000 in
set_option maxRecDepth 100000 in
theorem woven_any (T : Nd) (w : World) (u : Value) (hf : T.Fine) (hr : Row 0 w.heap.size w T u) (hc : T.cost ≤ 1048576) (ht : Tabs w) :
    Calls Tryd.prog 34 #[T.val u] w fun e w' => e = .returned (.tuple #[.int .i64 (wovN T), .bool (wovB T)]) ∧ Below w.heap.size w w' := by
  obtain ⟨au, cu, hu, _⟩ := row_eq.1 hr
  subst hu
  have hlt := ht.lt
  have HM : Hid (∀ (W : World), Below w.heap.size w W → Calls Tryd.prog 44 #[T.val (.slice au T.len cu), .int .i64 6000] W fun e w' => e = .returned (.bool (mostB T 6000)) ∧ Below W.heap.size W w') :=
    fun W hb => most_any T 6000 W _ w.heap.size hf hb.size (row_below hb (Nat.le_refl _) hr) hc (by omega) (by omega)
  unfold Nd.val at HM
  obtain ⟨o, ho⟩ : ∃ o : Obj, o = .cells #[.int .i64 T.kind, .int .i64 T.num, .string T.name, .slice au T.len cu] 37 := ⟨_, rfl⟩
  obtain ⟨W0, hW0⟩ : ∃ W0, ((w.alloc (.cells #[.int .i64 T.kind, .int .i64 T.num, .string T.name, .slice au T.len cu] 37)).alloc (.cells #[.int .i64 0] 3)).alloc (.cells #[.bool false] 4) = W0 := ⟨_, rfl⟩
  have HZ0 : Hid (W0.heap.size = w.heap.size + 3) := by unfold Hid; rw [← hW0]; simp
  have HB0 : Hid (Below w.heap.size w W0) := by rw [← hW0]; exact (((Below.refl _ _).alloc (Nat.le_refl _) _).alloc (by simp) _).alloc (by simp; omega) _
  have HC0 : Hid (W0.heap[w.heap.size]? = some o ∧ Boxed W0 (w.heap.size + 1) 3 (.int .i64 0) ∧ Boxed W0 (w.heap.size + 1 + 1) 4 (.bool false)) := by
    have b1 := Boxed.new (w.alloc (.cells #[.int .i64 T.kind, .int .i64 T.num, .string T.name, .slice au T.len cu] 37)) 3 (.int .i64 0)
    have b2 := Boxed.new ((w.alloc (.cells #[.int .i64 T.kind, .int .i64 T.num, .string T.name, .slice au T.len cu] 37)).alloc (.cells #[.int .i64 0] 3)) 4 (.bool false)
    simp only [World.size_alloc] at b1 b2
    unfold Hid
    rw [← hW0]
    refine ⟨?_, b1.alloc _, b2⟩
    rw [Below.heap_alloc _ _ _ (by simp; omega), Below.heap_alloc _ _ _ (by simp), ho]
    exact World.alloc_heap_new w _
  have HW0 := hid_mk hW0
  have HOB := hid_mk ho
  have HNC : Hid (∀ W : World, W.heap[w.heap.size]? = some o → W.cell? ⟨w.heap.size, 0, none⟩ = some (.int .i64 T.kind) ∧ W.cell? ⟨w.heap.size, 1, none⟩ = some (.int .i64 T.num) ∧ W.cell? ⟨w.heap.size, 2, none⟩ = some (.string T.name) ∧ W.cell? ⟨w.heap.size, 3, none⟩ = some (.slice au T.len cu)) := fun W hW => by
    rw [ho] at hW
    exact ⟨(cell_of_row _ _ 0 _ _ (0, 0) hW).trans rfl, (cell_of_row _ _ 1 _ _ (0, 0) hW).trans rfl, (cell_of_row _ _ 2 _ _ (0, 0) hW).trans rfl, (cell_of_row _ _ 3 _ _ (0, 0) hW).trans rfl⟩
  clear hW0 ho
  cases hmb : mostB T 6000
  case false =>
    have HO := hid_mk (wov_big hmb)
    unfold Nd.val
    clear hr ht
    go_enter Tryd.func34, Tryd.ntmps34
    go_wp2_with (go_at_call 44; rw [HW0.out]; refine (HM.out _ HB0.out).mono ?_; rw [hmb]; rintro e w2 ⟨rfl, hb2⟩; obtain ⟨q0, qn, qb⟩ := HC0.out; have RN := hid_mk (show Boxed w2 (w.heap.size + 1) 3 (.int .i64 0) from (hb2.block _ (by have := HZ0.out; omega)).trans qn); have RB := hid_mk (show Boxed w2 (w.heap.size + 1 + 1) 4 (.bool false) from (hb2.block _ (by have := HZ0.out; omega)).trans qb); have HB2 := hid_mk (HB0.out.trans (hb2.mono (by have := HZ0.out; omega))); have r1 := RN.out.cell; have r2 := RN.out.frozen; have r3 := RB.out.cell; have r4 := RB.out.frozen; clear hb2 qb qn q0)
    have hB : Below w.heap.size w ((w2.setCell ⟨w.heap.size + 1, 0, none⟩ (.int .i64 0)).setCell ⟨w.heap.size + 1 + 1, 0, none⟩ (.bool false)) := (HB2.out.setCell (p := ⟨w.heap.size + 1, 0, none⟩) (by show w.heap.size ≤ w.heap.size + 1; omega) _).setCell (p := ⟨w.heap.size + 1 + 1, 0, none⟩) (by show w.heap.size ≤ w.heap.size + 1 + 1; omega) _
    have y1 : ((w2.setCell ⟨w.heap.size + 1, 0, none⟩ (.int .i64 0)).setCell ⟨w.heap.size + 1 + 1, 0, none⟩ (.bool false)).cell? ⟨w.heap.size + 1, 0, none⟩ = some (.int .i64 0) :=
      (World.cell?_of_block (a := ⟨w.heap.size + 1, 0, none⟩) (Below.heap_setCell _ _ _ _ (by show w.heap.size + 1 ≠ w.heap.size + 1 + 1; omega))).trans (RN.out.set (.int .i64 0)).cell
    have y2 : ((w2.setCell ⟨w.heap.size + 1, 0, none⟩ (.int .i64 0)).setCell ⟨w.heap.size + 1 + 1, 0, none⟩ (.bool false)).cell? ⟨w.heap.size + 1 + 1, 0, none⟩ = some (.bool false) := by
      have R : Boxed (w2.setCell ⟨w.heap.size + 1, 0, none⟩ (.int .i64 0)) (w.heap.size + 1 + 1) 4 (.bool false) := (Below.heap_setCell _ _ _ _ (by show w.heap.size + 1 + 1 ≠ w.heap.size + 1; omega)).trans RB.out
      exact (R.set (.bool false)).cell
    revert hB y1 y2
    generalize (w2.setCell ⟨w.heap.size + 1, 0, none⟩ (.int .i64 0)).setCell ⟨w.heap.size + 1 + 1, 0, none⟩ (.bool false) = X
    intro hB y1 y2
    refine bodyPost_ret (v := .tuple #[.int .i64 0, .bool false]) (by simp [results, Tryd.results34, go_sem, y1, y2]) rfl ⟨pair_ret (by unfold wovN; rw [HO.out]; simp) HO.out.symm, hB⟩
  have HMB := hid_mk hmb
  have HCA := hid_mk (counter_any 1)
  refine (callsIn_wide (n := 3)).1 ?_
  refine callsIn_of_wp_marks Tryd.func34 rfl trivial ?_ rfl
  unfold Nd.val
  simp only [Tryd.ntmps34, List.size_toArray, List.length_cons, List.length_nil, Nat.reduceAdd, Nat.reduceSub, Array.replicate_succ, Array.replicate_zero, List.push_toArray, List.append_toArray, List.nil_append, List.cons_append]
  gi_wp2_with (refine ⟨trivial, ?_⟩; first
    | (gi_at_call 44; rw [HW0.out]; refine (callsIn_wide.2 (HM.out _ HB0.out)).mono ?_; rw [hmb]; rintro e w1 ⟨rfl, hb1⟩; have HZ1 := hid_mk (show w.heap.size + 3 ≤ w1.heap.size by have := hb1.size; have := HZ0.out; omega); have HK1 : Hid (w1.heap[w.heap.size]? = some o ∧ Boxed w1 (w.heap.size + 1) 3 (.int .i64 0) ∧ Boxed w1 (w.heap.size + 1 + 1) 4 (.bool false)) := ⟨(hb1.block _ (by have := HZ0.out; omega)).trans HC0.out.1, (hb1.block _ (by have := HZ0.out; omega)).trans HC0.out.2.1, (hb1.block _ (by have := HZ0.out; omega)).trans HC0.out.2.2⟩; have HB1 := hid_mk (HB0.out.trans (hb1.mono (by have := HZ0.out; omega))); obtain ⟨q0, q1, q2, q3⟩ := HNC.out w1 HK1.out.1; have hwlt : w.heap.size < w1.heap.size := (by have := HZ1.out; omega); clear hb1)
    | (gi_at_call 45; refine (callsIn_wide.2 (HCA.out _)).mono ?_; rintro e w' ⟨rfl, rfl⟩)
    | (gi_at_call 46; refine (callsIn_wide.2 (nodes_any _ _ _ _ _ _ _)).mono ?_; rintro e w' ⟨rfl, rfl⟩))
  obtain ⟨V, hV⟩ : ∃ V, ((((w1.alloc (.cells #[.int .i64 1] 3)).alloc (.cells #[.func (.func 57) #[] #[.pointer (some ⟨w1.heap.size, 0, none⟩)]] 65)).alloc (.cells #[.int .i64 T.kind, .int .i64 T.num, .string T.name, .slice au T.len cu] 37)).alloc (.cells #[.int .i64 T.kind, .int .i64 T.num, .string T.name, .slice au T.len cu] 37)).alloc (.cells #[.func (.func 59) #[] #[]] 76) = V := ⟨_, rfl⟩
  have hsz : V.heap.size = w1.heap.size + 5 := by rw [← hV]; simp
  have hz1 := HZ1.out
  have hb1V : Below w1.heap.size w1 V := by
    rw [← hV]
    exact (((((Below.refl _ w1).alloc (Nat.le_refl _) _).alloc (by simp) _).alloc (by simp; omega) _).alloc (by simp; omega) _).alloc (by simp; omega) _
  have hb0 : Below w.heap.size w V := HB1.out.trans (hb1V.mono (by omega))
  have c0 : V.cell? ⟨w1.heap.size + 1 + 1 + 1, 0, none⟩ = some (.int .i64 T.kind) := by rw [← hV]; simp [go_sem]
  have c1 : V.cell? ⟨w1.heap.size + 1 + 1 + 1, 1, none⟩ = some (.int .i64 T.num) := by rw [← hV]; simp [go_sem]
  have c2 : V.cell? ⟨w1.heap.size + 1 + 1 + 1, 2, none⟩ = some (.string T.name) := by rw [← hV]; simp [go_sem]
  have c3 : V.cell? ⟨w1.heap.size + 1 + 1 + 1, 3, none⟩ = some (.slice au T.len cu) := by rw [← hV]; simp [go_sem]
  have c4 : V.cell? ⟨w1.heap.size + 1 + 1 + 1 + 1, 0, none⟩ = some (.func (.func 59) #[] #[]) := by rw [← hV]; simp [go_sem]
  have b1 := Boxed.new w1 3 (.int .i64 1)
  have b2 := Boxed.new (w1.alloc (.cells #[.int .i64 1] 3)) 65 (.func (.func 57) #[] #[.pointer (some ⟨w1.heap.size, 0, none⟩)])
  simp only [World.size_alloc] at b1 b2
  have hI0 : WvI w w1 o T [] V := by
    refine ⟨hb0, (hb1V.block _ (by omega)).trans HK1.out.1, (hb1V.block _ (by omega)).trans HK1.out.2.1, (hb1V.block _ (by omega)).trans HK1.out.2.2, ?_, ?_, trivial, by omega⟩
    · rw [← hV]; exact (((b1.alloc _).alloc _).alloc _).alloc _
    · rw [← hV]; exact ((b2.alloc _).alloc _).alloc _
  have hIU : Under V.heap.size (WvI w w1 o T) := fun pre A C h hb => by
    have hz := h.size
    exact ⟨h.below.trans (hb.mono (by omega)), (hb.block _ (by omega)).trans h.node, (hb.block _ (by omega)).trans h.num, (hb.block _ (by omega)).trans h.okb, (hb.block _ (by omega)).trans h.cnt, (hb.block _ (by omega)).trans h.fnb, h.ok, by have := hb.size; omega⟩
  have hXU : ∀ c, Under V.heap.size (fun (_ : List Ent) W => WvX w w1 T c W) := fun c pre A C h hb => by
    have hz := h.size
    exact ⟨h.ret, h.below.trans (hb.mono (by omega)), (hb.block _ (by omega)).trans h.num, (hb.block _ (by omega)).trans h.okb, h.bad, by have := hb.size; omega⟩
  rw [hV]
  clear hV b1 b2 q0 q1 q2 q3
  have HT := hid_mk ht
  have hn := T.fine_len hf
  refine wpIn_rangeFunc_frame (α := Ent) (encs := wenc) (S := WAll T) (Sp := fun _ => True) (Came := WCame T w.heap.size w) (mine := fun k => k = w1.heap.size) rfl (by omega) (gf := 69) (lb := #[.pointer (some ⟨w1.heap.size + 1 + 1 + 1, 0, none⟩), .pointer (some ⟨w1.heap.size + 1 + 1 + 1 + 1, 0, none⟩)]) rfl trivial (enters_of Tryd.func69 (by kernel_rfl) rfl)
    (fun l J Jx W hWs hbW hJ hJx hJz hY h0 => by
      have hcell : ∀ b o, b < V.heap.size → W.cell? ⟨b, o, none⟩ = V.cell? ⟨b, o, none⟩ := fun b o hb => hbW.cell (p := ⟨b, o, none⟩) hb
      exact walk_in 2 (by omega) T (.slice au T.len cu) w.heap.size V.heap.size (w1.heap.size + 1 + 1 + 1) (w1.heap.size + 1 + 1 + 1 + 1) l (fun k => k = w1.heap.size) J Jx w W hf hc hWs (by omega) (by omega) (by omega) (fun k hk => by omega) (fun k hk => ((hbW.block k (by omega)).trans (hb0.block k hk))) hr hJ hJz hY h0
        ((hcell _ _ (by omega)).trans c0) ((hcell _ _ (by omega)).trans c1) ((hcell _ _ (by omega)).trans c2) ((hcell _ _ (by omega)).trans c3) ((hcell _ _ (by omega)).trans c4))
    (fun _ => rfl) (WvI w w1 o T) (fun c _ W => WvX w w1 T c W) hIU hXU hI0
    (fun x W => { tmps := #[.agg #[.int .i64 T.kind, .int .i64 T.num, .string T.name, .slice au T.len cu], .pointer (some ⟨w.heap.size, 0, none⟩), .pointer (some ⟨w.heap.size + 1, 0, none⟩), .pointer (some ⟨w.heap.size + 1 + 1, 0, none⟩), .pointer (some ⟨w1.heap.size + 1, 0, none⟩), .pointer (some ⟨W.heap.size, 0, none⟩), .agg #[.int .i64 T.kind, .int .i64 T.num, .string T.name, .slice au T.len cu], .bool true, .bool false, .func (.func 57) #[] #[.pointer (some ⟨w1.heap.size, 0, none⟩)], .agg #[.int .i64 T.kind, .int .i64 T.num, .string T.name, .slice au T.len cu], .func (.func 69) #[] #[.pointer (some ⟨w1.heap.size + 1 + 1 + 1, 0, none⟩), .pointer (some ⟨w1.heap.size + 1 + 1 + 1 + 1, 0, none⟩)], x.D.val x.v, .int .i64 (x.d : Int), undef, undef, undef, undef, undef, undef, undef, undef, undef, undef, undef, undef, undef, undef, undef, undef, undef, undef, undef, undef, undef], defers := [] })
    (fun x W => W.alloc (.cells #[.int .i64 x.D.kind, .int .i64 x.D.num, .string x.D.name, x.v] 37)) (fun x W => (Below.refl _ _).alloc (Nat.le_refl _) _) ?assign ?body ?done ?stop
  case assign =>
    rintro l pre ⟨D, d, v⟩ W K ⟨_, hxr, _⟩ hK
    obtain ⟨a, c, hv, _⟩ := row_eq.1 hxr
    have hv : v = .slice a D.len c := hv
    subst hv
    simp only [wenc, Nd.val]
    gi_wp2
    exact hK
  case body =>
    rintro l pre ⟨D, d, v⟩ W1 W3 r hi hz ⟨⟨rest, hcame⟩, hxr, hxf⟩ hW3 hi3
    obtain ⟨av, cv, hv, _⟩ := row_eq.1 hxr
    have hv : v = .slice av D.len cv := hv
    subst hv
    have hcame : pre.map key ++ (D, d) :: rest = T.pre 0 := hcame
    have hbz : W3.heap.size = W1.heap.size + 1 := by rw [hW3]; simp
    have hbx : W3.heap[W1.heap.size]? = some (.cells #[.int .i64 D.kind, .int .i64 D.num, .string D.name, .slice av D.len cv] 37) := by
      rw [hW3, World.putObj_heap_other (by omega)]; exact World.alloc_heap_new W1 _
    have x0 : W3.cell? ⟨W1.heap.size, 0, none⟩ = some (.int .i64 D.kind) := (cell_of_row _ _ 0 _ _ (0, 0) hbx).trans rfl
    have x1 : W3.cell? ⟨W1.heap.size, 1, none⟩ = some (.int .i64 D.num) := (cell_of_row _ _ 1 _ _ (0, 0) hbx).trans rfl
    have x2 : W3.cell? ⟨W1.heap.size, 2, none⟩ = some (.string D.name) := (cell_of_row _ _ 2 _ _ (0, 0) hbx).trans rfl
    have x3 : W3.cell? ⟨W1.heap.size, 3, none⟩ = some (.slice av D.len cv) := (cell_of_row _ _ 3 _ _ (0, 0) hbx).trans rfl
    have xf := hi3.fnb.cell
    have hz1' := hi.size
    have hzi := hi3.size
    have HI := hid_mk hi3
    have HPRE : Hid ((pre ++ [(⟨D, d, .slice av D.len cv⟩ : Ent)]).map key = pre.map key ++ [(D, d)]) := by unfold Hid; rw [List.map_append]; rfl
    have HDC : Hid (D.cost ≤ 1048576) := Nat.le_trans (cost_pre T 0 (D, d) (by rw [← hcame]; simp)) hc
    have hbd := numL_le _ _ hi.ok
    have hln : lens (pre.map key) ≤ 1048577 := by
      have h1 := lens_pre T 0
      rw [← hcame, lens_app] at h1
      have := T.size_cost
      omega
    have HUN : Hid (D.kind = 30 → ¬ fitP D (numL (pre.map key) 1) → wovB T = false) := fun h1 h2 => wov_unfit (p := (D, d)) hcame h1 h2
    have HOK := hid_mk hi.ok
    have HPF := hid_mk (fun (h : D.cost ≤ 1048576) => pick_fits D (numL (pre.map key) 1) W3 (.slice av D.len cv) w.heap.size w1.heap.size hxf (by omega) (by omega) (row_below hi3.below (Nat.le_refl _) hxr) h (by omega) (by omega) hi3.cnt)
    unfold Nd.val at HPF
    clear hcame hxr hxf hi hi3 hW3 hI0 hIU hXU c0 c1 c2 c3 c4 hbx
    by_cases hk : D.kind = 30
    · have hkb : (D.kind == 30) = true := by simp [hk]
      have HKD := hid_mk hk
      clear hk
      by_cases hft : fitP D (numL (pre.map key) 1)
      · have HFT := hid_mk hft
        have HP2 := hid_mk ((HPF.out HDC.out).mono (fun e w' h => (show e = .returned (.bool true) ∧ Below W3.heap.size (W3.setCell ⟨w1.heap.size, 0, none⟩ (.int .i64 (numL (pre.map key) 1 + ((D.len : Int) - 1)))) w' from h.elim (fun h => h.2) (fun h => absurd hft h.1))))
        clear hft HPF
        gi_wp2_with ((refine ⟨trivial, ?_⟩; gi_at_call 47; refine (CallsIn.inRound l (callsIn_wide.2 HP2.out)).mono ?_; rintro e w' ⟨rfl, hb3⟩; have HB3 := hid_mk hb3; clear hb3))
        have hzs : (W3.setCell ⟨w1.heap.size, 0, none⟩ (.int .i64 (numL (pre.map key) 1 + ((D.len : Int) - 1)))).heap.size = W3.heap.size := by simp only [World.setCell, Array.size_modify]
        have hz3 := HB3.out.size
        have hnx : nextP D (numL (pre.map key) 1) = numL (pre.map key) 1 + ((D.len : Int) - 1) := if_pos HKD.out
        have hnl : numL ((pre ++ [(⟨D, d, .slice av D.len cv⟩ : Ent)]).map key) 1 = numL (pre.map key) 1 + ((D.len : Int) - 1) := by rw [HPRE.out, numL_app]; exact hnx
        have ho : ∀ k, k < W3.heap.size → k ≠ w1.heap.size → w'.heap[k]? = W3.heap[k]? := fun k hk hne => (HB3.out.block k hk).trans (Below.heap_setCell _ _ _ _ hne)
        refine ⟨(KeepsOthers.setCell _ _ _).trans (keeps_below (by rw [hzs]; exact HB3.out)), ⟨by omega, fun k hk hm => ho k hk hm⟩, (HI.out.below.setCell (p := ⟨w1.heap.size, 0, none⟩) (by show w.heap.size ≤ w1.heap.size; omega) _).trans (HB3.out.mono (by omega)), (ho _ (by omega) (by omega)).trans HI.out.node, (ho _ (by omega) (by omega)).trans HI.out.num, (ho _ (by omega) (by omega)).trans HI.out.okb, ?_, (ho _ (by omega) (by omega)).trans HI.out.fnb, ?_, by omega⟩
        · rw [hnl]; exact (HB3.out.block _ (by omega)).trans (HI.out.cnt.set _)
        · rw [HPRE.out, okL_app]
          exact ⟨HOK.out, fun _ => HFT.out, trivial⟩
      · have HBD := hid_mk (HUN.out HKD.out hft)
        have HP2 := hid_mk ((HPF.out HDC.out).mono (fun e w' h => (show e = .returned (.bool false) ∧ (KeepsOthers W3 w' ∧ Below w1.heap.size W3 w' ∧ W3.heap.size ≤ w'.heap.size) from h.elim (fun h => absurd h.1 hft) (fun h => ⟨h.2.1, fit_no (by omega) h.2.2⟩))))
        clear hft HPF
        gi_wp2_with ((refine ⟨trivial, ?_⟩; gi_at_call 47; refine (CallsIn.inRound l (callsIn_wide.2 HP2.out)).mono ?_; rintro e w' ⟨rfl, hko, hbn, hzz⟩; have RN := hid_mk (show Boxed w' (w.heap.size + 1) 3 (.int .i64 0) from (hbn.block _ (by omega)).trans HI.out.num); have RB := hid_mk (show Boxed w' (w.heap.size + 1 + 1) 4 (.bool false) from (hbn.block _ (by omega)).trans HI.out.okb); have HB4 := hid_mk (HI.out.below.trans (hbn.mono (by omega))); have HKO := hid_mk hko; have r1 := RN.out.cell; have r2 := RN.out.frozen; have r3 := RB.out.cell; have r4 := RB.out.frozen; clear hbn hko))
        have R2 : Boxed (w'.setCell ⟨w.heap.size + 1, 0, none⟩ (.int .i64 0)) (w.heap.size + 1 + 1) 4 (.bool false) := (Below.heap_setCell _ _ _ _ (by show w.heap.size + 1 + 1 ≠ w.heap.size + 1; omega)).trans RB.out
        refine ⟨(HKO.out.trans (KeepsOthers.setCell _ _ _)).trans (KeepsOthers.setCell _ _ _), rfl, (HB4.out.setCell (p := ⟨w.heap.size + 1, 0, none⟩) (by show w.heap.size ≤ w.heap.size + 1; omega) _).setCell (p := ⟨w.heap.size + 1 + 1, 0, none⟩) (by show w.heap.size ≤ w.heap.size + 1 + 1; omega) _, ?_, R2.set (.bool false), HBD.out, by simp only [World.setCell, Array.size_modify]; omega⟩
        exact (Below.heap_setCell _ _ _ _ (by show w.heap.size + 1 ≠ w.heap.size + 1 + 1; omega)).trans (RN.out.set (.int .i64 0))
    · have hkb : (D.kind == 30) = false := by simp [hk]
      have HKD := hid_mk hk
      clear hk
      gi_wp2_with (refine ⟨trivial, ?_⟩)
      have hnx : ∀ x, nextP D x = x := fun x => if_neg HKD.out
      have hnl : numL ((pre ++ [(⟨D, d, .slice av D.len cv⟩ : Ent)]).map key) 1 = numL (pre.map key) 1 := by rw [HPRE.out, numL_app]; exact hnx _
      refine ⟨keeps_below (Below.refl _ _), KeptF.refl _ _, HI.out.below, HI.out.node, HI.out.num, HI.out.okb, by rw [hnl]; exact HI.out.cnt, HI.out.fnb, ?_, by omega⟩
      rw [HPRE.out, okL_app]
      exact ⟨HOK.out, fun e => absurd e HKD.out, trivial⟩
  case done =>
    rintro D xs W hD hS hi hK
    have hS : xs.map key = T.pre 0 := hS
    have hok := hi.ok
    rw [hS] at hok
    obtain ⟨hr1, hr2⟩ := right_runs T 0 1 (by omega)
    have hrx := hr2 hok
    have hrn := hr1.1 hok
    have hbd := numL_le _ _ hok
    have hcn := hi.cnt
    rw [hS, hrx] at hcn
    rw [hrx] at hbd
    have hls : (lens (T.pre 0) : Int) ≤ 1048576 := by
      have h1 := lens_pre T 0
      have := T.size_cost
      omega
    have HGD : Hid (GdT T) := gd_of T 0 fun p hp hk => by
      obtain ⟨y, y1, y2, y3⟩ := okL_fit _ 1 (by omega) hok p hp hk
      exact ⟨y, y1, by omega, y3⟩
    obtain ⟨sc1, sc2, sc3⟩ := choose_sub 0 T
    have HCH := hid_mk (fun (Z : World) (hb : Below w.heap.size w Z) => chosen_any 0 (by omega) (by omega) T.size T (Nat.le_refl _) Z (.slice au T.len cu) w.heap.size hf hb.size (row_below hb (Nat.le_refl _) hr) hc HGD.out)
    have HTC := hid_mk (fun (Z : World) (v : Value) (hb : Below w.heap.size w Z) (hrz : Row 0 Z.heap.size Z (chooseT 0 T) v) => impl_tree (chooseT 0 T) Z v (sc3 hf) hrz (by omega) (tabs_below HT.out hb))
    have HBIG := hid_mk (@wov_many T)
    have HTRE := hid_mk (@wov_tree T)
    have HYES := hid_mk (fun h3 h4 => wov_yes (T := T) HMB.out hrn h3 h4)
    have HNX : Hid (wovB T = true → wovN T = rightT T 1 - 1) := fun h => by unfold wovN; rw [if_pos h]
    have HNO : Hid (wovB T = false → wovN T = 0) := fun h => by unfold wovN; rw [if_neg (by rw [h]; simp)]
    unfold Nd.val at HCH HTC
    generalize rightT T 1 = X at *
    generalize chooseT 0 T = C at *
    have hX1 : 1 ≤ X := hbd.1
    have hX2 : X ≤ 2000000 := by omega
    have HNUM := hid_mk (number_any X 0 w1.heap.size W hcn (by omega) (by omega) (by omega) (by omega))
    have qf := hi.fnb.cell
    have qn := hi.num.cell
    have qnf := hi.num.frozen
    have qb := hi.okb.cell
    have qbf := hi.okb.frozen
    obtain ⟨q0, q1, q2, q3⟩ := HNC.out W hi.node
    have HI := hid_mk hi
    have HK := hid_mk hK
    have d1 : ¬ w.heap.size + 1 = w1.heap.size := by omega
    have d2 : ¬ w1.heap.size = w.heap.size + 1 := by omega
    have d3 : ¬ w.heap.size = w1.heap.size := by omega
    have d4 : ¬ w1.heap.size = w.heap.size := by omega
    have d5 : ¬ w.heap.size + 1 + 1 = w1.heap.size := by omega
    have d6 : ¬ w1.heap.size = w.heap.size + 1 + 1 := by omega
    clear hS hi hK hI0 hIU hXU c0 c1 c2 c3 c4 hok hrx hr1 hr2 hcn hrn hbd hls sc1 sc2 sc3 HMB
    have HA1 : Hid (Boxed (W.setCell ⟨w1.heap.size, 0, none⟩ (.int .i64 X)) (w.heap.size + 1) 3 (.int .i64 0)) := (Below.heap_setCell _ _ _ _ (by show w.heap.size + 1 ≠ w1.heap.size; omega)).trans HI.out.num
    have N6 : Hid (Boxed ((W.setCell ⟨w1.heap.size, 0, none⟩ (.int .i64 X)).setCell ⟨w.heap.size + 1, 0, none⟩ (.int .i64 (X - 1))) (w.heap.size + 1) 3 (.int .i64 (X - 1))) := HA1.out.set _
    have B6 : Hid (Boxed ((W.setCell ⟨w1.heap.size, 0, none⟩ (.int .i64 X)).setCell ⟨w.heap.size + 1, 0, none⟩ (.int .i64 (X - 1))) (w.heap.size + 1 + 1) 4 (.bool false)) := (Below.heap_setCell _ _ _ _ (by show w.heap.size + 1 + 1 ≠ w.heap.size + 1; omega)).trans ((Below.heap_setCell _ _ _ _ (by show w.heap.size + 1 + 1 ≠ w1.heap.size; omega)).trans HI.out.okb)
    have K6 : Hid (((W.setCell ⟨w1.heap.size, 0, none⟩ (.int .i64 X)).setCell ⟨w.heap.size + 1, 0, none⟩ (.int .i64 (X - 1))).heap[D]? = some (.deferred (some []))) := (Below.heap_setCell _ _ _ _ (by show D ≠ w.heap.size + 1; omega)).trans ((Below.heap_setCell _ _ _ _ (by show D ≠ w1.heap.size; omega)).trans HK.out)
    have L6 : Hid (Below w.heap.size w ((W.setCell ⟨w1.heap.size, 0, none⟩ (.int .i64 X)).setCell ⟨w.heap.size + 1, 0, none⟩ (.int .i64 (X - 1)))) := (HI.out.below.setCell (p := ⟨w1.heap.size, 0, none⟩) (by show w.heap.size ≤ w1.heap.size; omega) _).setCell (p := ⟨w.heap.size + 1, 0, none⟩) (by show w.heap.size ≤ w.heap.size + 1; omega) _
    have Z6 : Hid (((W.setCell ⟨w1.heap.size, 0, none⟩ (.int .i64 X)).setCell ⟨w.heap.size + 1, 0, none⟩ (.int .i64 (X - 1))).heap.size = W.heap.size) := by unfold Hid; simp only [World.setCell, Array.size_modify]
    have ZD : Hid (D < W.heap.size) := (Array.getElem?_eq_some_iff.1 HK.out).1
    by_cases hbig : X ≤ 401
    · have hbb : ¬ 400 < X - 1 := by omega
      cases hib : implB C
      · have HB2 := hid_mk (HTRE.out hib)
        gi_wp2_with (refine ⟨trivial, ?_⟩; first
          | (gi_at_call 57; refine (callsIn_wide.2 HNUM.out).mono ?_; rintro e w2 ⟨rfl, rfl⟩)
          | (gi_at_call 38; refine (callsIn_wide.2 (HCH.out _ L6.out)).mono ?_; rintro e w4 ⟨uc, rfl, htr, hb4⟩; obtain ⟨ca, cc, rfl⟩ := tr_shape htr; have Z4 := hid_mk (show W.heap.size ≤ w4.heap.size by have := hb4.size; have := Z6.out; omega); have R4 := hid_mk (row_wide (tr_row htr) (Nat.zero_le _) (Nat.le_refl _)); have N4 := hid_mk (show Boxed w4 (w.heap.size + 1) 3 (.int .i64 (X - 1)) from (hb4.block _ (by have := Z6.out; have := ZD.out; omega)).trans N6.out); have B4 := hid_mk (show Boxed w4 (w.heap.size + 1 + 1) 4 (.bool false) from (hb4.block _ (by have := Z6.out; have := ZD.out; omega)).trans B6.out); have K4 := hid_mk ((hb4.block D (by have := Z6.out; have := ZD.out; omega)).trans K6.out); have L4 := hid_mk (L6.out.trans (hb4.mono (by have := Z6.out; have := ZD.out; omega))); clear htr hb4)
          | (gi_at_call 48; refine (callsIn_wide.2 (HTC.out _ _ L4.out R4.out)).mono ?_; rw [hib]; rintro e w5 ⟨rfl, hb5⟩; have N5 := hid_mk (show Boxed w5 (w.heap.size + 1) 3 (.int .i64 (X - 1)) from (hb5.block _ (by have := Z4.out; have := ZD.out; omega)).trans N4.out); have B5 := hid_mk (show Boxed w5 (w.heap.size + 1 + 1) 4 (.bool false) from (hb5.block _ (by have := Z4.out; have := ZD.out; omega)).trans B4.out); have K5 := hid_mk ((hb5.block D (by have := Z4.out; have := ZD.out; omega)).trans K4.out); have L5 := hid_mk (L4.out.trans (hb5.mono (by have := Z4.out; have := ZD.out; omega))); have n1 := N5.out.cell; have n2 := N5.out.frozen; have n3 := B5.out.cell; have n4 := B5.out.frozen; clear hb5)
          | skip)
        obtain ⟨e1, e2, e3, e4, e5⟩ := end_two (x' := .int .i64 0) (y' := .bool false) L5.out N5.out B5.out (by omega) K5.out
        revert e1 e2 e3 e4 e5
        generalize (w5.setCell ⟨w.heap.size + 1, 0, none⟩ (.int .i64 0)).setCell ⟨w.heap.size + 1 + 1, 0, none⟩ (.bool false) = Y
        intro e1 e2 e3 e4 e5
        refine ⟨by simp, .inl ⟨_, _, rfl, run_takeDeferred e4, ?_⟩⟩
        have gp := grownBy_putObj' Y D (.deferred none)
        have p0 := (e2.kept gp (fun e => by have := Option.some.inj e; omega)).cell
        have p1 := (e3.kept gp (fun e => by have := Option.some.inj e; omega)).cell
        refine ⟨.tuple #[.int .i64 0, .bool false], by simp [results, Tryd.results34, go_sem, p0, p1], pair_ret (HNO.out HB2.out).symm HB2.out.symm, ?_⟩
        exact e1.grown gp (by have := e1.size; omega) (fun k e => by have := Option.some.inj e; omega)
      · have HB2 := hid_mk (HYES.out hbig hib)
        gi_wp2_with (refine ⟨trivial, ?_⟩; first
          | (gi_at_call 57; refine (callsIn_wide.2 HNUM.out).mono ?_; rintro e w2 ⟨rfl, rfl⟩)
          | (gi_at_call 38; refine (callsIn_wide.2 (HCH.out _ L6.out)).mono ?_; rintro e w4 ⟨uc, rfl, htr, hb4⟩; obtain ⟨ca, cc, rfl⟩ := tr_shape htr; have Z4 := hid_mk (show W.heap.size ≤ w4.heap.size by have := hb4.size; have := Z6.out; omega); have R4 := hid_mk (row_wide (tr_row htr) (Nat.zero_le _) (Nat.le_refl _)); have N4 := hid_mk (show Boxed w4 (w.heap.size + 1) 3 (.int .i64 (X - 1)) from (hb4.block _ (by have := Z6.out; have := ZD.out; omega)).trans N6.out); have B4 := hid_mk (show Boxed w4 (w.heap.size + 1 + 1) 4 (.bool false) from (hb4.block _ (by have := Z6.out; have := ZD.out; omega)).trans B6.out); have K4 := hid_mk ((hb4.block D (by have := Z6.out; have := ZD.out; omega)).trans K6.out); have L4 := hid_mk (L6.out.trans (hb4.mono (by have := Z6.out; have := ZD.out; omega))); clear htr hb4)
          | (gi_at_call 48; refine (callsIn_wide.2 (HTC.out _ _ L4.out R4.out)).mono ?_; rw [hib]; rintro e w5 ⟨rfl, hb5⟩; have N5 := hid_mk (show Boxed w5 (w.heap.size + 1) 3 (.int .i64 (X - 1)) from (hb5.block _ (by have := Z4.out; have := ZD.out; omega)).trans N4.out); have B5 := hid_mk (show Boxed w5 (w.heap.size + 1 + 1) 4 (.bool false) from (hb5.block _ (by have := Z4.out; have := ZD.out; omega)).trans B4.out); have K5 := hid_mk ((hb5.block D (by have := Z4.out; have := ZD.out; omega)).trans K4.out); have L5 := hid_mk (L4.out.trans (hb5.mono (by have := Z4.out; have := ZD.out; omega))); have n1 := N5.out.cell; have n2 := N5.out.frozen; have n3 := B5.out.cell; have n4 := B5.out.frozen; clear hb5)
          | skip)
        obtain ⟨e1, e2, e3, e4, e5⟩ := end_two (x' := .int .i64 (X - 1)) (y' := .bool true) L5.out N5.out B5.out (by omega) K5.out
        revert e1 e2 e3 e4 e5
        generalize (w5.setCell ⟨w.heap.size + 1, 0, none⟩ (.int .i64 (X - 1))).setCell ⟨w.heap.size + 1 + 1, 0, none⟩ (.bool true) = Y
        intro e1 e2 e3 e4 e5
        refine ⟨by simp, .inl ⟨_, _, rfl, run_takeDeferred e4, ?_⟩⟩
        have gp := grownBy_putObj' Y D (.deferred none)
        have p0 := (e2.kept gp (fun e => by have := Option.some.inj e; omega)).cell
        have p1 := (e3.kept gp (fun e => by have := Option.some.inj e; omega)).cell
        refine ⟨.tuple #[.int .i64 (X - 1), .bool true], by simp [results, Tryd.results34, go_sem, p0, p1], pair_ret (HNX.out HB2.out).symm HB2.out.symm, ?_⟩
        exact e1.grown gp (by have := e1.size; omega) (fun k e => by have := Option.some.inj e; omega)
    · have hbb : 400 < X - 1 := by omega
      have HB2 := hid_mk (HBIG.out (by omega))
      gi_wp2_with (refine ⟨trivial, ?_⟩; first | (gi_at_call 57; refine (callsIn_wide.2 HNUM.out).mono ?_; rintro e w2 ⟨rfl, rfl⟩) | skip)
      obtain ⟨e1, e2, e3, e4, e5⟩ := end_two (x' := .int .i64 0) (y' := .bool false) L6.out N6.out B6.out (by omega) K6.out
      revert e1 e2 e3 e4 e5
      generalize (((W.setCell ⟨w1.heap.size, 0, none⟩ (.int .i64 X)).setCell ⟨w.heap.size + 1, 0, none⟩ (.int .i64 (X - 1))).setCell ⟨w.heap.size + 1, 0, none⟩ (.int .i64 0)).setCell ⟨w.heap.size + 1 + 1, 0, none⟩ (.bool false) = Y
      intro e1 e2 e3 e4 e5
      refine ⟨by simp, .inl ⟨_, _, rfl, run_takeDeferred e4, ?_⟩⟩
      have gp := grownBy_putObj' Y D (.deferred none)
      have p0 := (e2.kept gp (fun e => by have := Option.some.inj e; omega)).cell
      have p1 := (e3.kept gp (fun e => by have := Option.some.inj e; omega)).cell
      refine ⟨.tuple #[.int .i64 0, .bool false], by simp [results, Tryd.results34, go_sem, p0, p1], pair_ret (HNO.out HB2.out).symm HB2.out.symm, ?_⟩
      exact e1.grown gp (by have := e1.size; omega) (fun k e => by have := Option.some.inj e; omega)
  case stop =>
    rintro D c pre W hD _ hx hK
    obtain rfl := hx.ret
    have hb3 := hx.below
    have r0 := hx.num
    have r1 := hx.okb
    have HO := hid_mk hx.bad
    clear hx hI0 hIU hXU c0 c1 c2 c3 c4
    gi_wp2
    refine ⟨by simp, .inl ⟨_, _, rfl, run_takeDeferred hK, ?_⟩⟩
    have gp := grownBy_putObj' W D (.deferred none)
    have p0 := (r0.kept gp (fun e => by have := Option.some.inj e; omega)).cell
    have p1 := (r1.kept gp (fun e => by have := Option.some.inj e; omega)).cell
    refine ⟨.tuple #[.int .i64 0, .bool false], by simp [results, Tryd.results34, go_sem, p0, p1], pair_ret (by unfold wovN; rw [HO.out]; simp) HO.out.symm, ?_⟩
    exact hb3.grown gp (by have := hb3.size; omega) (fun k e => by have := Option.some.inj e; omega)
end Go.Proofs.YtjgbjahcnnjfpaaDoor
