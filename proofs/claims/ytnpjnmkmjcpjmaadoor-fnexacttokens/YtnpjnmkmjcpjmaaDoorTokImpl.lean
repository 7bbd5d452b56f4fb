/- The contract of the program's Tokens. -/
import Derived.Test.YtnpjnmkmjcpjmaaDoorAlong
import Derived.RangeFuncBox
import Derived.Deep.Onto
set_option linter.unusedVariables false
namespace Go.Proofs.YtnpjnmkmjcpjmaaDoor
open Go.RowKit Go.Shelf
attribute [local go_sem] Oper.semAt_some

theorem along_any (s : ByteArray) (w : World) : Calls Tryd.prog 29 #[.string s] w fun e w' => e = .returned (.func (.func 34) #[] #[.pointer (some ⟨w.heap.size, 0, none⟩)]) ∧ w' = w.alloc (.cells #[.string s] 9) := by
  go_enter Tryd.func29, Tryd.ntmps29
  go_wp2
  go_ret
  exact ⟨rfl, rfl⟩

theorem impl_long (s : ByteArray) (w : World) (hs : 65536 < s.size) (hm : s.size ≤ maxLen) :
    Calls Tryd.prog 14 #[.string s] w fun e w' => e = .returned (.tuple #[.slice none 0 0, .int .i64 2, .int .i64 0]) ∧ Below w.heap.size w w' := by
  unfold maxLen at hm
  go_enter Tryd.func14, Tryd.ntmps14
  go_wp2
  refine bodyPost_ret (v := .tuple #[.slice none 0 0, .int .i64 2, .int .i64 0]) (by simp [results, Tryd.results14, go_sem]) rfl ⟨rfl, ?_⟩
  exact (((Below.refl _ _).alloc (Nat.le_refl _) _).alloc (by simp) _).alloc (by simp; omega) _

theorem own_shapeK {w : World} {B : Nat} {e : TypeId} {size n : Nat} {v : Value} {xs : List Value} (h : w.ownsRow B e size v n xs) : ∃ a c, v = .slice a n c := by
  rcases h.2 with ⟨rfl, rfl⟩ | ⟨g, cap, _, hv, _⟩
  · exact ⟨_, _, rfl⟩
  · exact ⟨_, _, hv⟩
theorem grown3 {W0 W1 W3 : World} {l : Nat} {o ob : Obj} (hb : Below W0.heap.size W0 W1) (h3 : W3 = (W1.alloc o).putObj l ob) : W0.grownBy W3 (some l) := by
  subst h3
  have hbz := hb.size
  refine ⟨hb.os, hb.tape, hb.output, by simp; omega, fun k hk hne => ?_⟩
  rw [World.putObj_heap_other (fun e => hne (by rw [e])), Below.heap_alloc _ _ _ (by omega)]
  exact hb.block k hk

/-- What the caller's own cells hold between two rounds: b is the heap's size where the call began. -/
structure TI (w : World) (pre : List Yld) (W : World) : Prop where
  ok : ∀ x ∈ pre, x.2 = 0
  few : pre.length ≤ 4000
  list : ∃ v, Boxed W (w.heap.size + 1 + 1 + 1) 26 v ∧ W.ownsRow (w.heap.size + 8) 37 3 v pre.length (flat (pre.map (·.1)))
  r0 : Boxed W w.heap.size 26 (.slice none 0 0)
  r1 : Boxed W (w.heap.size + 1) 3 (.int .i64 0)
  r2 : Boxed W (w.heap.size + 1 + 1) 3 (.int .i64 0)
  below : Below w.heap.size w W
  size : w.heap.size + 5 ≤ W.heap.size
/-- What they hold where a round has left. -/
structure TX (s : ByteArray) (w : World) (c : Code) (pre : List Yld) (W : World) : Prop where
  ret : c = .ret
  ans : ∃ (o : Outcome), Answers s.data.toList o ∧ o.list = [] ∧ Boxed W w.heap.size 26 (.slice none 0 0) ∧ Boxed W (w.heap.size + 1) 3 (.int .i64 o.code) ∧ Boxed W (w.heap.size + 1 + 1) 3 (.int .i64 o.place)
  below : Below w.heap.size w W
  size : w.heap.size + 5 ≤ W.heap.size
theorem ti_apart (w : World) : Apart3 (w.heap.size + 5) (TI w) := by
  intro pre A C row h hg hr
  obtain ⟨v, hv, ho⟩ := h.list
  have hne : ∀ k, k < w.heap.size + 5 → some k ≠ row := fun k hk e => by have := (hr k e.symm).1; omega
  have hz := hg.size
  refine ⟨h.ok, h.few, ⟨v, hv.kept hg (hne _ (by omega)), ho.kept hg ?_⟩, h.r0.kept hg (hne _ (by omega)), h.r1.kept hg (hne _ (by omega)), h.r2.kept hg (hne _ (by omega)), h.below.grown hg (by have := h.size; omega) (fun k e => by have := (hr k e).1; omega), by have := h.size; omega⟩
  cases hb : v.ownBlock with
  | none => exact .inl rfl
  | some g =>
    refine .inr fun e => ?_
    have := (ho.lt g hb).1
    have := (hr g e.symm).2
    omega
theorem tx_apart (s : ByteArray) (w : World) (c : Code) : Apart3 (w.heap.size + 5) (TX s w c) := by
  intro pre A C row h hg hr
  obtain ⟨o, ha, hl, b0, b1, b2⟩ := h.ans
  have hne : ∀ k, k < w.heap.size + 5 → some k ≠ row := fun k hk e => by have := (hr k e.symm).1; omega
  have hz := hg.size
  exact ⟨h.ret, ⟨o, ha, hl, b0.kept hg (hne _ (by omega)), b1.kept hg (hne _ (by omega)), b2.kept hg (hne _ (by omega))⟩, h.below.grown hg (by have := h.size; omega) (fun k e => by have := (hr k e).1; omega), by have := h.size; omega⟩

theorem left_with {s : ByteArray} {w W3 : World} {pre pre' : List Yld} (h : TI w pre W3) (code : Int) (place : Nat) (ha : Answers s.data.toList ⟨[], code, place⟩) :
    KeepsOthers W3 (((W3.setCell ⟨w.heap.size, 0, none⟩ (.slice none 0 0)).setCell ⟨w.heap.size + 1, 0, none⟩ (.int .i64 code)).setCell ⟨w.heap.size + 1 + 1, 0, none⟩ (.int .i64 place)).drew ∧
      TX s w .ret pre' (((W3.setCell ⟨w.heap.size, 0, none⟩ (.slice none 0 0)).setCell ⟨w.heap.size + 1, 0, none⟩ (.int .i64 code)).setCell ⟨w.heap.size + 1 + 1, 0, none⟩ (.int .i64 place)).drew := by
  have g1 := grownBy_setCell' W3 w.heap.size (.slice none 0 0)
  have g2 := grownBy_setCell' (W3.setCell ⟨w.heap.size, 0, none⟩ (.slice none 0 0)) (w.heap.size + 1) (.int .i64 code)
  have g3 := grownBy_setCell' ((W3.setCell ⟨w.heap.size, 0, none⟩ (.slice none 0 0)).setCell ⟨w.heap.size + 1, 0, none⟩ (.int .i64 code)) (w.heap.size + 1 + 1) (.int .i64 place)
  have r0 := ((h.r0.set (.slice none 0 0)).kept g2 (fun e => by have := Option.some.inj e; omega)).kept g3 (fun e => by have := Option.some.inj e; omega)
  have r1 := ((h.r1.kept g1 (fun e => by have := Option.some.inj e; omega)).set (.int .i64 code)).kept g3 (fun e => by have := Option.some.inj e; omega)
  have r2 := ((h.r2.kept g1 (fun e => by have := Option.some.inj e; omega)).kept g2 (fun e => by have := Option.some.inj e; omega)).set (.int .i64 place)
  have hb := (((h.below.setCell (p := ⟨w.heap.size, 0, none⟩) (Nat.le_refl _) (.slice none 0 0)).setCell (p := ⟨w.heap.size + 1, 0, none⟩) (by show w.heap.size ≤ w.heap.size + 1; omega) (.int .i64 code)).setCell (p := ⟨w.heap.size + 1 + 1, 0, none⟩) (by show w.heap.size ≤ w.heap.size + 1 + 1; omega) (.int .i64 place)).drew
  have hsz : w.heap.size + 5 ≤ (((W3.setCell ⟨w.heap.size, 0, none⟩ (.slice none 0 0)).setCell ⟨w.heap.size + 1, 0, none⟩ (.int .i64 code)).setCell ⟨w.heap.size + 1 + 1, 0, none⟩ (.int .i64 place)).heap.size := by
    have := h.size; have := g1.size; have := g2.size; have := g3.size; omega
  exact ⟨(((KeepsOthers.setCell _ _ _).trans (KeepsOthers.setCell _ _ _)).trans (KeepsOthers.setCell _ _ _)).trans (KeepsOthers.drew _), ⟨rfl, ⟨⟨[], code, place⟩, ha, rfl, r0, r1, r2⟩, hb, hsz⟩⟩

theorem goes_on {w V0 W1 W3 w1 : World} {pre : List Yld} {t : Tok} {v v' : Value} {tmp : Obj} (h : TI w pre W3) (h4 : pre.length ≠ 4000) (hz : w.heap.size + 7 < V0.heap.size) (hbsz : V0.heap.size ≤ W1.heap.size) (hg3z : W1.heap.size ≤ W3.heap.size)
    (hv : Boxed W3 (w.heap.size + 1 + 1 + 1) 26 v) (ho : W3.ownsRow (w.heap.size + 8) 37 3 v pre.length (flat (pre.map (·.1)))) (hl0 : ∀ k, v.ownBlock = some k → w.heap.size + 8 ≤ k ∧ k < V0.heap.size)
    (hown' : w1.ownsRow (w.heap.size + 8) 37 3 v' (pre.length + 1) (flat (pre.map (·.1)) ++ [.int .i64 t.kind, .string t.text, .int .i64 t.place])) (hgrow : (W3.alloc tmp).grownBy w1 v.ownBlock) :
    KeepsOthers W3 (w1.setCell ⟨w.heap.size + 1 + 1 + 1, 0, none⟩ v') ∧ (∀ k, (ykeep w.heap.size (w.heap.size + 1 + 1 + 1 + 1) (w.heap.size + 5) k ∨ (V0.heap.size ≤ k ∧ k < W1.heap.size)) → (w1.setCell ⟨w.heap.size + 1 + 1 + 1, 0, none⟩ v').heap[k]? = W3.heap[k]?) ∧ TI w (pre ++ [(t, 0)]) (w1.setCell ⟨w.heap.size + 1 + 1 + 1, 0, none⟩ v') := by
  have hne : ∀ k, k < w.heap.size + 8 → some k ≠ v.ownBlock := fun k hk e => by have := (hl0 k e.symm).1; omega
  have hv1 : Boxed w1 (w.heap.size + 1 + 1 + 1) 26 v := (hv.alloc tmp).kept hgrow (hne _ (by omega))
  have hgs := hgrow.size
  rw [World.size_alloc] at hgs
  have hset := grownBy_setCell' w1 (w.heap.size + 1 + 1 + 1) v'
  refine ⟨((KeepsOthers.alloc W3 tmp).trans (KeepsOthers.of_grownBy hgrow (fun j o hj hjo => ?_))).trans (KeepsOthers.setCell _ _ _), fun k hk => ?_, ⟨?_, ?_, ⟨v', hv1.set v', ?_⟩, ?_, ?_, ?_, ?_, ?_⟩⟩
  · rcases ho.2 with ⟨e, _⟩ | ⟨g, cap, cur, e, _, hh, _⟩
    · rw [e] at hj; cases hj
    · rw [e] at hj
      obtain rfl : g = j := Option.some.inj hj
      rw [Below.heap_alloc _ _ _ (Array.getElem?_eq_some_iff.1 hh).1, hh] at hjo
      cases hjo; rfl
  · have hk1 : k ≠ w.heap.size + 1 + 1 + 1 := by rcases hk with (hk | hk | hk) | hk <;> omega
    have hk2 : some k ≠ v.ownBlock := fun e => by have := hl0 k e.symm; rcases hk with (hk | hk | hk) | hk <;> omega
    have hk3 : k < W3.heap.size := by rcases hk with (hk | hk | hk) | hk <;> omega
    rw [hset.block k (by omega) (fun e => hk1 (Option.some.inj e)), hgrow.block k (by rw [World.size_alloc]; omega) hk2, Below.heap_alloc _ _ _ hk3]
  · intro x hx
    rcases List.mem_append.1 hx with hx | hx
    · exact h.ok x hx
    · rw [List.mem_singleton.1 hx]
  · have := h.few; simp; omega
  · have e1 : flat ((pre ++ [((t, 0) : Yld)]).map (·.1)) = flat (pre.map (·.1)) ++ [.int .i64 t.kind, .string t.text, .int .i64 t.place] := by rw [List.map_append]; exact flat_snoc _ _
    rw [e1]
    have : (pre ++ [((t, 0) : Yld)]).length = pre.length + 1 := by simp
    rw [this]
    refine hown'.kept hset ?_
    cases hb : v'.ownBlock with
    | none => exact .inl rfl
    | some g => exact .inr fun e => by have := (hown'.lt g hb).1; have := Option.some.inj e; omega
  · exact ((h.r0.alloc tmp).kept hgrow (hne _ (by omega))).kept hset (fun e => by have := Option.some.inj e; omega)
  · exact ((h.r1.alloc tmp).kept hgrow (hne _ (by omega))).kept hset (fun e => by have := Option.some.inj e; omega)
  · exact ((h.r2.alloc tmp).kept hgrow (hne _ (by omega))).kept hset (fun e => by have := Option.some.inj e; omega)
  · exact ((h.below.alloc h.below.size tmp).grown hgrow (by rw [World.size_alloc]; omega) (fun k e => by have := (hl0 k e).1; omega)).setCell (p := ⟨w.heap.size + 1 + 1 + 1, 0, none⟩) (by show w.heap.size ≤ w.heap.size + 1 + 1 + 1; omega) _
  · have := hset.size; omega

set_option maxHeartbeats 4000000 in
set_option maxRecDepth 100000 in
theorem impl_tokens (s : ByteArray) (w : World) (hs : s.size ≤ 65536) (h2 : 2 < w.heap.size) (hw : StrRow w 1 kwWords) (hg : StrRow w 2 sgWords) :
    Calls Tryd.prog 14 #[.string s] w fun e w' => ∃ o v, Answers s.data.toList o ∧ e = .returned (.tuple #[v, .int .i64 o.code, .int .i64 o.place]) ∧ w'.ownsRow w.heap.size 37 3 v o.list.length (flat o.list) ∧ Below w.heap.size w w' := by
  refine (callsIn_wide (n := 3)).1 ?_
  refine callsIn_of_wp_marks Tryd.func14 rfl trivial ?_ rfl
  simp only [Tryd.ntmps14, List.size_toArray, List.length_cons, List.length_nil, Nat.reduceAdd, Nat.reduceSub, Array.replicate_succ, Array.replicate_zero, List.push_toArray, List.append_toArray, List.nil_append, List.cons_append]
  gi_wp2_with ((refine ⟨trivial, ?_⟩; gi_at_call 29; refine (callsIn_wide.2 (along_any _ _)).mono ?_; rintro e w' ⟨rfl, rfl⟩))
  obtain ⟨W0, hW0⟩ : ∃ W0, (((((w.alloc (.cells #[.slice none 0 0] 26)).alloc (.cells #[.int .i64 0] 3)).alloc (.cells #[.int .i64 0] 3)).alloc (.cells #[.slice none 0 0] 26)).alloc (.cells #[.string s] 9)) = W0 := ⟨_, rfl⟩
  have hsz : W0.heap.size = w.heap.size + 5 := by rw [← hW0]; simp
  have hb0 : Below w.heap.size w W0 := by
    rw [← hW0]
    exact (((((Below.refl _ w).alloc (Nat.le_refl _) _).alloc (by simp) _).alloc (by simp; omega) _).alloc (by simp; omega) _).alloc (by simp; omega) _
  have b0 := Boxed.new w 26 (.slice none 0 0)
  have b1 := Boxed.new (w.alloc (.cells #[.slice none 0 0] 26)) 3 (.int .i64 0)
  have b2 := Boxed.new ((w.alloc (.cells #[.slice none 0 0] 26)).alloc (.cells #[.int .i64 0] 3)) 3 (.int .i64 0)
  have b3 := Boxed.new (((w.alloc (.cells #[.slice none 0 0] 26)).alloc (.cells #[.int .i64 0] 3)).alloc (.cells #[.int .i64 0] 3)) 26 (.slice none 0 0)
  have b4 := Boxed.new ((((w.alloc (.cells #[.slice none 0 0] 26)).alloc (.cells #[.int .i64 0] 3)).alloc (.cells #[.int .i64 0] 3)).alloc (.cells #[.slice none 0 0] 26)) 9 (.string s)
  simp only [World.size_alloc] at b1 b2 b3 b4
  have hI0 : TI w [] W0 := by
    refine ⟨by simp, by simp, ⟨_, ?_, World.ownsRow_nil _ _ _ _⟩, ?_, ?_, ?_, hb0, by omega⟩
    · rw [← hW0]; exact b3.alloc _
    · rw [← hW0]; exact (((b0.alloc _).alloc _).alloc _).alloc _
    · rw [← hW0]; exact ((b1.alloc _).alloc _).alloc _
    · rw [← hW0]; exact (b2.alloc _).alloc _
  have hbt : W0.cell? ⟨w.heap.size + 1 + 1 + 1 + 1, 0, none⟩ = some (.string s) := by rw [← hW0]; exact b4.cell
  have hI3 : Apart3 W0.heap.size (TI w) := by rw [hsz]; exact ti_apart w
  have hX3 : ∀ c, Apart3 W0.heap.size (TX s w c) := fun c => by rw [hsz]; exact tx_apart s w c
  rw [hW0]
  clear b0 b1 b2 b3 b4 hW0
  refine wpIn_rangeFunc_cells (α := Yld) (encs := yenc) (S := YAll s.data.toList) (Sp := fun _ => True) (Came := YCame s.data.toList) (keep := ykeep w.heap.size (w.heap.size + 1 + 1 + 1 + 1) W0.heap.size) rfl (by omega) (gf := 34) (lb := #[.pointer (some ⟨w.heap.size + 1 + 1 + 1 + 1, 0, none⟩)]) rfl trivial (enters_of Tryd.func34 (by kernel_rfl) rfl)
    (fun k hk => by rcases hk with hk | hk | hk <;> omega)
    (fun l J Jx W hWs hbW hJ hJx hJz hY h0 => along_in 2 (by omega) s hs w.heap.size (w.heap.size + 1 + 1 + 1 + 1) W0.heap.size l h2 (by omega) (by omega) J Jx W hWs hJ hY h0 ((hbW.cell (p := ⟨w.heap.size + 1 + 1 + 1 + 1, 0, none⟩) (by show w.heap.size + 1 + 1 + 1 + 1 < W0.heap.size; omega)).trans hbt) (row_belowK (row_belowK hw hb0 (by omega)) hbW (by omega)) (row_belowK (row_belowK hg hb0 (by omega)) hbW (by omega)))
    (fun _ => rfl) (TI w) (TX s w) hI3 hX3 hI0
    (fun x m => { tmps := #[.string s, undef, .pointer (some ⟨w.heap.size, 0, none⟩), .pointer (some ⟨w.heap.size + 1, 0, none⟩), .pointer (some ⟨w.heap.size + 1 + 1, 0, none⟩), .pointer (some ⟨w.heap.size + 1 + 1 + 1, 0, none⟩), .pointer (some ⟨m, 0, none⟩), .int .i64 x.2, .string s, .int .i64 s.size, .bool (decide (65536 < (s.size : Int))), .string s, .func (.func 34) #[] #[.pointer (some ⟨w.heap.size + 1 + 1 + 1 + 1, 0, none⟩)], .agg #[.int .i64 x.1.kind, .string x.1.text, .int .i64 x.1.place], .int .i64 x.2, undef, undef, undef, undef, undef, undef, undef, undef, undef, undef, undef, undef, undef, undef, undef], defers := [] })
    (fun x => .cells #[.int .i64 x.1.kind, .string x.1.text, .int .i64 x.1.place] 37) ?assign ?body ?done ?stop
  case assign =>
    intro l x W K hK
    simp only [yenc]
    gi_wp2
    exact hK
  case body =>
    rintro l pre ⟨t, code⟩ V0 W1 W3 r hi hz hb hcame hW3 hi3
    have hg3 := grown3 hb hW3
    obtain ⟨v, hv0, ho0⟩ := hi.list
    have hl0 : ∀ k, v.ownBlock = some k → w.heap.size + 8 ≤ k ∧ k < V0.heap.size := ho0.lt
    have hv := hv0.kept hg3 (fun e => by have := Option.some.inj e; omega)
    have ho := ho0.kept hg3 (by
      cases hbk : v.ownBlock with
      | none => exact .inl rfl
      | some k => exact .inr fun e => by have := (hl0 k hbk).1; have := Option.some.inj e; omega)
    obtain ⟨av, cv, rfl⟩ := own_shapeK ho0
    have hbx : W3.heap[W1.heap.size]? = some (.cells #[.int .i64 t.kind, .string t.text, .int .i64 t.place] 37) := by
      have := hb.size
      rw [hW3, World.putObj_heap_other (by omega)]; exact World.alloc_heap_new W1 _
    have hbsz := hb.size
    have hg3z := hg3.size
    have hW3z : W1.heap.size < W3.heap.size := (Array.getElem?_eq_some_iff.1 hbx).1
    obtain ⟨x0, x1, x2, y0, y1, y2⟩ := cells3 hbx
    have c3 := hv.cell
    have q0 := hi3.r0.cell
    have q0f := hi3.r0.frozen
    have q1 := hi3.r1.cell
    have q1f := hi3.r1.frozen
    have q2 := hi3.r2.cell
    have q2f := hi3.r2.frozen
    obtain ⟨p, acc, hre, rfl, hp, hcs⟩ := hcame
    have hfew := hi.few
    have hal : (oks acc).length = acc.length := by simp [oks]
    have hBI : Hid (TI w (oks acc) W3) := hi3
    have hfol : Tryd.prog.follows Departure.mixedOrders = true := by kernel_rfl
    have d0 : ¬ W1.heap.size = w.heap.size := by omega
    have d1 : ¬ W1.heap.size = w.heap.size + 1 := by omega
    have d2 : ¬ W1.heap.size = w.heap.size + 1 + 1 := by omega
    have d3 : ¬ w.heap.size = W1.heap.size := by omega
    have d4 : ¬ w.heap.size + 1 = W1.heap.size := by omega
    have d5 : ¬ w.heap.size + 1 + 1 = W1.heap.size := by omega
    rcases hcs with ⟨k, tt, d, hst, hx⟩ | ⟨hst, hx⟩
    · cases hx
      by_cases h4 : (oks acc).length = 4000
      · have HA : Hid (Answers s.data.toList ⟨[], 13, p⟩) := .many hre (by omega) hp hst
        rw [h4] at c3
        clear hre hst hb hi hi3 ho0 hv0 hv ho hbx hW3 hg3 hl0 hal h4 hfew
        gi_wp2
        gi_region_o
        all_goals gi_wp2
        all_goals exact left_with hBI.out 13 p HA.out
      · have e4 : (((oks acc).length : Int) == 4000) = false := beq_eq_false_iff_ne.2 (by omega)
        obtain ⟨i0, hi0, hz0, hz1, hz2⟩ := info_parts (show (Tryd.prog.info? 37).map (fun i => (i.zero, i.size, i.bytes)) = some (some (.agg #[.int .i64 0, .string ⟨#[]⟩, .int .i64 0]), 3, 32) by kernel_rfl)
        have HO0 := (show Hid (W3.ownsRow _ _ _ _ _ _) from ho)
        have HV0 := (show Hid (Boxed W3 _ _ _) from hv)
        have HL0 := (show Hid (∀ k, _ = some k → _) from hl0)
        clear hre hst hb hi hi3 ho0 hv0 hv ho hbx hW3 hg3 hl0 hal
        gi_wp2_with ((gi_at_builtin; refine wpListIn_append_own _ rfl _ _ 26 rfl (w.heap.size + 8) 37 i0 (.agg #[.int .i64 0, .string ⟨#[]⟩, .int .i64 0]) 3 32 Tryd.underlying26 hi0 hz0 hz1 hz2 rfl (by decide) _ _ _ rfl (HO0.out.alloc _) ⟨W3.heap.size, 0, none⟩ 1 1 [.int .i64 k, .string tt, .int .i64 p] rfl rfl (cell_three_new _ _ _ _ _) (one_cells _ _ _) (by unfold maxLen; omega) (by omega) (by simp; omega) ?_; intro v' w1 hown' hgrow hnil'; obtain ⟨g', cap', rfl⟩ := own_form hown'; have HW := (show Hid (KeepsOthers W3 _ ∧ _) from goes_on (t := ⟨k, tt, p⟩) hBI.out h4 (by omega) hbsz (by omega) HV0.out HO0.out HL0.out hown' hgrow); have hv1 := (HV0.out.alloc _).kept hgrow (fun e => by have := (HL0.out _ e.symm).1; omega); have hc1 := hv1.cell; have hf1 := hv1.frozen; clear hown' hgrow hnil' hv1))
        exact HW.out
    · cases hx
      have HA : Hid (Answers s.data.toList ⟨[], 4, p⟩) := .bad hre (by omega) hp hst
      clear hre hst hb hi hi3 ho0 hv0 hv ho hbx hW3 hg3 hl0 hal hfew
      gi_wp2
      gi_region_o
      all_goals gi_wp2
      all_goals exact left_with hBI.out 4 p HA.out
  case done =>
    rintro D xs W hD hS hi hK
    obtain ⟨v, hv, ho⟩ := hi.list
    have hA : Answers s.data.toList ⟨xs.map (·.1), 0, 0⟩ := by
      rcases hS with ⟨p, acc, hre, rfl, hp⟩ | ⟨x, hx, hne⟩
      · have e1 : (oks acc).map (·.1) = acc := by unfold oks; rw [List.map_map]; exact List.map_id _
        rw [e1]
        exact .done hre (by have := hi.few; simpa [oks] using this) hp
      · exact absurd (hi.ok x hx) hne
    obtain ⟨av, cv, rfl⟩ := own_shapeK ho
    have c3 := hv.cell
    have q0 := hi.r0.cell
    have q0f := hi.r0.frozen
    have q1 := hi.r1.cell
    have q1f := hi.r1.frozen
    have q2 := hi.r2.cell
    have q2f := hi.r2.frozen
    have HA : Hid (Answers s.data.toList ⟨xs.map (·.1), 0, 0⟩) := hA
    have HI : Hid (TI w xs W) := hi
    have HO := (show Hid (W.ownsRow _ _ _ _ _ _) from ho)
    have HK : Hid (W.heap[D]? = some (.deferred (some []))) := hK
    clear hA hi ho hS hv hI3 hX3 hI0 hK
    gi_wp2
    have g1 := grownBy_setCell' W w.heap.size (.slice av xs.length cv)
    have g2 := grownBy_setCell' (W.setCell ⟨w.heap.size, 0, none⟩ (.slice av xs.length cv)) (w.heap.size + 1) (.int .i64 0)
    have g3 := grownBy_setCell' ((W.setCell ⟨w.heap.size, 0, none⟩ (.slice av xs.length cv)).setCell ⟨w.heap.size + 1, 0, none⟩ (.int .i64 0)) (w.heap.size + 1 + 1) (.int .i64 0)
    have r0 := ((HI.out.r0.set (.slice av xs.length cv)).kept g2 (fun e => by have := Option.some.inj e; omega)).kept g3 (fun e => by have := Option.some.inj e; omega)
    have r1 := ((HI.out.r1.kept g1 (fun e => by have := Option.some.inj e; omega)).set (.int .i64 0)).kept g3 (fun e => by have := Option.some.inj e; omega)
    have r2 := ((HI.out.r2.kept g1 (fun e => by have := Option.some.inj e; omega)).kept g2 (fun e => by have := Option.some.inj e; omega)).set (.int .i64 0)
    have hK3 := (((KeepsOthers.setCell W ⟨w.heap.size, 0, none⟩ (.slice av xs.length cv)).trans (KeepsOthers.setCell _ ⟨w.heap.size + 1, 0, none⟩ (.int .i64 0))).trans (KeepsOthers.setCell _ ⟨w.heap.size + 1 + 1, 0, none⟩ (.int .i64 0))).same D _ HK.out rfl
    have ho3 : (((W.setCell ⟨w.heap.size, 0, none⟩ (.slice av xs.length cv)).setCell ⟨w.heap.size + 1, 0, none⟩ (.int .i64 0)).setCell ⟨w.heap.size + 1 + 1, 0, none⟩ (.int .i64 0)).ownsRow (w.heap.size + 8) 37 3 (.slice av xs.length cv) xs.length (flat (xs.map (·.1))) := by
      have hne : ∀ k, k < w.heap.size + 5 → (Value.slice av xs.length cv).ownBlock = none ∨ (Value.slice av xs.length cv).ownBlock ≠ some k := fun k hk => by
        cases hb : (Value.slice av xs.length cv).ownBlock with
        | none => exact .inl rfl
        | some g => exact .inr fun e => by have := (HO.out.lt g hb).1; have := Option.some.inj e; omega
      exact ((HO.out.kept g1 (hne _ (by omega))).kept g2 (hne _ (by omega))).kept g3 (hne _ (by omega))
    have hb3 := (((HI.out.below.setCell (p := ⟨w.heap.size, 0, none⟩) (Nat.le_refl _) (.slice av xs.length cv)).setCell (p := ⟨w.heap.size + 1, 0, none⟩) (by show w.heap.size ≤ w.heap.size + 1; omega) (.int .i64 0)).setCell (p := ⟨w.heap.size + 1 + 1, 0, none⟩) (by show w.heap.size ≤ w.heap.size + 1 + 1; omega) (.int .i64 0))
    revert r0 r1 r2 hK3 ho3 hb3
    generalize (((W.setCell ⟨w.heap.size, 0, none⟩ (.slice av xs.length cv)).setCell ⟨w.heap.size + 1, 0, none⟩ (.int .i64 0)).setCell ⟨w.heap.size + 1 + 1, 0, none⟩ (.int .i64 0)) = V
    intro r0 r1 r2 hK3 ho3 hb3
    refine ⟨by simp, .inl ⟨_, _, rfl, run_takeDeferred hK3, ?_⟩⟩
    have gp := grownBy_putObj' V D (.deferred none)
    have p0 := (r0.kept gp (fun e => by have := Option.some.inj e; omega)).cell
    have p1 := (r1.kept gp (fun e => by have := Option.some.inj e; omega)).cell
    have p2 := (r2.kept gp (fun e => by have := Option.some.inj e; omega)).cell
    refine ⟨.tuple #[.slice av xs.length cv, .int .i64 0, .int .i64 0], by simp [results, Tryd.results14, go_sem, p0, p1, p2], ⟨xs.map (·.1), 0, 0⟩, _, HA.out, rfl, ?_, ?_⟩
    · have e1 : (xs.map (·.1)).length = xs.length := by simp
      show (V.putObj D (.deferred none)).ownsRow w.heap.size 37 3 _ (xs.map (·.1)).length _
      rw [e1]
      exact (ownsRow_putObj ho3 _ hK3 rfl).mono (by omega)
    · exact hb3.grown gp (by have := hb3.size; omega) (fun k e => by have := Option.some.inj e; omega)
  case stop =>
    rintro D c pre W hD _ hx hK
    obtain rfl := hx.ret
    obtain ⟨o, hA, hl, r0, r1, r2⟩ := hx.ans
    have hb3 := hx.below
    have hz3 := hx.size
    clear hx hI3 hX3 hI0
    gi_wp2
    refine ⟨by simp, .inl ⟨_, _, rfl, run_takeDeferred hK, ?_⟩⟩
    have gp := grownBy_putObj' W D (.deferred none)
    have p0 := (r0.kept gp (fun e => by have := Option.some.inj e; omega)).cell
    have p1 := (r1.kept gp (fun e => by have := Option.some.inj e; omega)).cell
    have p2 := (r2.kept gp (fun e => by have := Option.some.inj e; omega)).cell
    refine ⟨.tuple #[.slice none 0 0, .int .i64 o.code, .int .i64 o.place], by simp [results, Tryd.results14, go_sem, p0, p1, p2], o, _, hA, rfl, ?_, ?_⟩
    · rw [hl]; exact World.ownsRow_nil _ _ _ _
    · exact hb3.grown gp (by have := hb3.size; omega) (fun k e => by have := Option.some.inj e; omega)
end Go.Proofs.YtnpjnmkmjcpjmaaDoor
