/- The program's NodeAt. -/
import Derived.Test.YtdcpmkhebfcfgaaDoorLfE
import Derived.Test.YtdcpmkhebfcfgaaDoorLfD
import Derived.Test.YtdcpmkhebfcfgaaDoorLcD
import Derived.Test.YtdcpmkhebfcfgaaDoorLcB
set_option linter.unusedVariables false
namespace Go.Proofs.YtdcpmkhebfcfgaaDoor
open Go.RowKit Go.Shelf
attribute [local go_sem] Oper.semAt_some

theorem numbered_any (i : Nat) (b : Array Value) (w : World) : Calls Tryd.prog 32 #[.func (.func i) #[] b] w fun e w' => e = .returned (.func (.func 47) #[] #[.pointer (some ⟨w.heap.size, 0, none⟩)]) ∧ w' = w.alloc (.cells #[.func (.func i) #[] b] 44) := by
  go_enter Tryd.func32, Tryd.ntmps32
  go_wp2
  go_ret
  exact ⟨rfl, rfl⟩

def ResB (W : World) (b : Nat) (x y : Int) (s : ByteArray) (u : Value) : Prop := W.heap[b]? = some (.cells #[.int .i64 x, .int .i64 y, .string s, u] 29)
theorem ResB.cells {W : World} {b : Nat} {x y : Int} {s : ByteArray} {u : Value} (h : ResB W b x y s u) : (W.cell? ⟨b, 0, none⟩ = some (.int .i64 x) ∧ W.cell? ⟨b, 1, none⟩ = some (.int .i64 y) ∧ W.cell? ⟨b, 2, none⟩ = some (.string s) ∧ W.cell? ⟨b, 3, none⟩ = some u) ∧ ∀ o, W.frozen? ⟨b, o, none⟩ = false := by
  refine ⟨⟨?_, ?_, ?_, ?_⟩, fun o => frozen_of_row _ _ _ _ _ h⟩
  · rw [cell_of_row _ _ _ _ _ (0, 0) h]; rfl
  · rw [cell_of_row _ _ _ _ _ (0, 0) h]; rfl
  · rw [cell_of_row _ _ _ _ _ (0, 0) h]; rfl
  · rw [cell_of_row _ _ _ _ _ (0, 0) h]; rfl

structure NaI (a : Int) (w : World) (n : Nat) (pre : List (Nat × Ent)) (W : World) : Prop where
  below : Below w.heap.size w W
  atb : Boxed W (w.heap.size + 1) 3 (.int .i64 a)
  res : ResB W (w.heap.size + 1 + 1) 0 0 ⟨#[]⟩ (.slice none 0 0)
  cod : Boxed W (w.heap.size + 1 + 1 + 1) 3 (.int .i64 0)
  no : ¬ (0 ≤ a ∧ a < (pre.length : Int))
  size : n ≤ W.heap.size
structure NaX (T : Nd) (a : Int) (w : World) (n : Nat) (W : World) : Prop where
  below : Below w.heap.size w W
  inn : 0 ≤ a ∧ a < (T.size : Int)
  cod : W.cell? ⟨w.heap.size + 1 + 1 + 1, 0, none⟩ = some (.int .i64 0)
  res : ∃ u hi, (W.cell? ⟨w.heap.size + 1 + 1, 0, none⟩ = some (.int .i64 (atT T a.toNat).kind) ∧ W.cell? ⟨w.heap.size + 1 + 1, 1, none⟩ = some (.int .i64 (atT T a.toNat).num) ∧ W.cell? ⟨w.heap.size + 1 + 1, 2, none⟩ = some (.string (atT T a.toNat).name) ∧ W.cell? ⟨w.heap.size + 1 + 1, 3, none⟩ = some u) ∧ hi ≤ W.heap.size ∧ Tr W (atT T a.toNat) (n + 6) hi u
  size : n + 6 ≤ W.heap.size
theorem NaX.turn {T : Nd} {a : Int} {w : World} {n : Nat} {A C : World} (h : NaX T a w n A) (hn : w.heap.size + 1 + 1 + 1 + 1 ≤ n) (ht : Turn (fun k => n ≤ k ∧ k < n + 6) A C) : NaX T a w n C := by
  have hs := h.size
  have hc : ∀ b o, b < n → C.cell? ⟨b, o, none⟩ = A.cell? ⟨b, o, none⟩ := fun b o hb => World.cell?_of_block (a := ⟨b, o, none⟩) (ht.same b (by omega) (by omega))
  obtain ⟨u, hi, ⟨c0, c1, c2, c3⟩, h2, h3⟩ := h.res
  refine ⟨⟨ht.os.trans h.below.os, ht.tape.trans h.below.tape, ht.output.trans h.below.output, Nat.le_trans h.below.size ht.size, fun k hk => (ht.same k (by omega) (by omega)).trans (h.below.block k hk)⟩, h.inn, (hc _ _ (by omega)).trans h.cod,
    ⟨u, hi, ⟨(hc _ _ (by omega)).trans c0, (hc _ _ (by omega)).trans c1, (hc _ _ (by omega)).trans c2, (hc _ _ (by omega)).trans c3⟩, Nat.le_trans h2 ht.size, tr_keep (fun k k1 k2 => ht.same k (by omega) (by omega)) h3⟩, Nat.le_trans h.size ht.size⟩

theorem came_at {T : Nd} {B0 : Nat} {W0 : World} {pre : List (Nat × Ent)} {x : Nat × Ent} (h : NCame T B0 W0 pre x) : x.1 < T.size ∧ atT T x.1 = x.2.D := by
  obtain ⟨h1, ⟨rest, h2⟩, _, _⟩ := h
  have hl : ((pre.map (·.2)).map key).length = x.1 := by simp [h1]
  have h3 : (T.pre 0)[x.1]? = some (key x.2) := by rw [← h2, ← hl]; simp
  have h4 : T.nodes[x.1]? = some x.2.D := by rw [← pre_nodes T 0, List.getElem?_map, h3]; rfl
  refine ⟨?_, by unfold atT; rw [h4]; rfl⟩
  have := (List.getElem?_eq_some_iff.1 h4).1
  rwa [nodes_len] at this

set_option maxHeartbeats 8000000 in
set_option maxRecDepth 100000 in
theorem impl_nodeat_ok (T : Nd) (a : Int) (w : World) (v : Value) (hf : T.Fine) (hr : Row 0 w.heap.size w T v) (hc : T.cost ≤ 1048576) (ht : Tabs w) (htb : treeB T = true) :
    Calls Tryd.prog 14 #[T.val v, .int .i64 a] w fun e w' => ∃ u, e = .returned (.tuple #[(naT T a).val u, .int .i64 (naC T a)]) ∧ Tr w' (naT T a) w.heap.size w'.heap.size u ∧ Below w.heap.size w w' := by
  obtain ⟨au, cu, hu, -⟩ := row_eq.1 hr
  subst hu
  have HT := hid_mk (fun W (hb : Below w.heap.size w W) => by
    have := impl_tree T W (.slice au T.len cu) hf (row_wide (row_below hb (Nat.le_refl _) hr) (Nat.le_refl _) hb.size) hc (tabs_below ht hb)
    rw [tree_one, htb] at this; exact this)
  have HR := hid_mk hr
  have HF := hid_mk hf
  clear hr hf ht
  generalize hW0 : (((w.alloc (.cells #[.int .i64 T.kind, .int .i64 T.num, .string T.name, .slice au T.len cu] 29)).alloc (.cells #[.int .i64 a] 3)).alloc (.cells #[.int .i64 0, .int .i64 0, .string ⟨#[]⟩, .slice none 0 0] 29)).alloc (.cells #[.int .i64 0] 3) = W0
  have hb0 : Hid (Below w.heap.size w W0) := by rw [← hW0]; exact ((((Below.refl _ _).alloc (Nat.le_refl _) _).alloc (by simp) _).alloc (by simp; omega) _).alloc (by simp; omega) _
  have hz0' : W0.heap.size = w.heap.size + 1 + 1 + 1 + 1 := by rw [← hW0]; simp
  have HC0 : Hid ((W0.cell? ⟨w.heap.size, 0, none⟩ = some (.int .i64 T.kind) ∧ W0.cell? ⟨w.heap.size, 1, none⟩ = some (.int .i64 T.num) ∧ W0.cell? ⟨w.heap.size, 2, none⟩ = some (.string T.name) ∧ W0.cell? ⟨w.heap.size, 3, none⟩ = some (.slice au T.len cu)) ∧
      Boxed W0 (w.heap.size + 1) 3 (.int .i64 a) ∧ ResB W0 (w.heap.size + 1 + 1) 0 0 ⟨#[]⟩ (.slice none 0 0) ∧ Boxed W0 (w.heap.size + 1 + 1 + 1) 3 (.int .i64 0)) := by
    rw [← hW0]
    refine ⟨by simp [go_sem], ?_, ?_, ?_⟩
    · have := Boxed.new (w.alloc (.cells #[.int .i64 T.kind, .int .i64 T.num, .string T.name, .slice au T.len cu] 29)) 3 (.int .i64 a)
      rw [World.size_alloc] at this
      exact (this.alloc _).alloc _
    · unfold ResB
      rw [Below.heap_alloc _ _ _ (by simp)]
      have := heap_alloc_new ((w.alloc (.cells #[.int .i64 T.kind, .int .i64 T.num, .string T.name, .slice au T.len cu] 29)).alloc (.cells #[.int .i64 a] 3)) (.cells #[.int .i64 0, .int .i64 0, .string ⟨#[]⟩, .slice none 0 0] 29)
      simpa using this
    · have := Boxed.new (((w.alloc (.cells #[.int .i64 T.kind, .int .i64 T.num, .string T.name, .slice au T.len cu] 29)).alloc (.cells #[.int .i64 a] 3)).alloc (.cells #[.int .i64 0, .int .i64 0, .string ⟨#[]⟩, .slice none 0 0] 29)) 3 (.int .i64 0)
      simpa using this
  have HW0 := hid_mk hW0
  have HZ0 := hid_mk hz0'
  clear hW0 hz0'
  refine (callsIn_wide (n := 9)).1 ?_
  refine callsIn_of_wp_marks Tryd.func14 rfl trivial ?_ rfl
  unfold Nd.val at HT
  have e0 : T.val (.slice au T.len cu) = .agg #[.int .i64 T.kind, .int .i64 T.num, .string T.name, .slice au T.len cu] := rfl
  rw [e0]
  clear e0
  simp only [Tryd.ntmps14, List.size_toArray, List.length_cons, List.length_nil, Nat.reduceAdd, Nat.reduceSub, Array.replicate_succ, Array.replicate_zero, List.push_toArray, List.append_toArray, List.nil_append, List.cons_append]
  gi_wp2_with (fail)
  rw [HW0.out]
  refine ⟨trivial, ?_⟩
  refine (callsIn_wide.2 (HT.out W0 hb0.out)).mono ?_
  rintro e w1 ⟨rfl, hb1⟩
  have hzz := HZ0.out
  have hz1 := hb1.size
  obtain ⟨c1, f1⟩ := bcellO hb1
  obtain ⟨⟨b0, b1, b2, b3⟩, r1, r2, r3⟩ := HC0.out
  rw [← c1 _ _ (by omega)] at b0 b1 b2 b3
  have R1 : Hid (Boxed w1 (w.heap.size + 1) 3 (.int .i64 a)) := (hb1.block _ (by omega)).trans r1
  have R2 : Hid (ResB w1 (w.heap.size + 1 + 1) 0 0 ⟨#[]⟩ (.slice none 0 0)) := (hb1.block _ (by omega)).trans r2
  have R3 : Hid (Boxed w1 (w.heap.size + 1 + 1 + 1) 3 (.int .i64 0)) := (hb1.block _ (by omega)).trans r3
  have HB1 := hid_mk (hb0.out.trans (hb1.mono (by omega)))
  have hz1' : w.heap.size + 1 + 1 + 1 + 1 ≤ w1.heap.size := by omega
  clear c1 f1 r1 r2 r3 hb1 HC0 HT
  gi_wp2_with (first
    | (refine ⟨trivial, ?_⟩; gi_at_call 22; refine (callsIn_wide.2 (nodes_any _ _ _ _ _ _ _)).mono ?_; rintro e w' ⟨rfl, rfl⟩)
    | (refine ⟨trivial, ?_⟩; gi_at_call 32; refine (callsIn_wide.2 (numbered_any _ _ _)).mono ?_; rintro e w' ⟨rfl, rfl⟩))
  obtain ⟨V, hV⟩ : ∃ V, (((w1.alloc (.cells #[.int .i64 T.kind, .int .i64 T.num, .string T.name, .slice au T.len cu] 29)).alloc (.cells #[.int .i64 T.kind, .int .i64 T.num, .string T.name, .slice au T.len cu] 29)).alloc (.cells #[.func (.func 39) #[] #[]] 58)).alloc (.cells #[(.func (.func 56) #[] #[.pointer (some ⟨w1.heap.size + 1, 0, none⟩), .pointer (some ⟨w1.heap.size + 1 + 1, 0, none⟩)])] 44) = V := ⟨_, rfl⟩
  have hVs : V.heap.size = w1.heap.size + 4 := by rw [← hV]; simp
  have hbV : Below w1.heap.size w1 V := by
    rw [← hV]
    exact ((((Below.refl _ w1).alloc (Nat.le_refl _) _).alloc (by simp) _).alloc (by simp; omega) _).alloc (by simp; omega) _
  have k0 : V.cell? ⟨w1.heap.size + 1, 0, none⟩ = some (.int .i64 T.kind) := by rw [← hV]; simp [go_sem]
  have k1 : V.cell? ⟨w1.heap.size + 1, 1, none⟩ = some (.int .i64 T.num) := by rw [← hV]; simp [go_sem]
  have k2 : V.cell? ⟨w1.heap.size + 1, 2, none⟩ = some (.string T.name) := by rw [← hV]; simp [go_sem]
  have k3 : V.cell? ⟨w1.heap.size + 1, 3, none⟩ = some (.slice au T.len cu) := by rw [← hV]; simp [go_sem]
  have k4 : V.cell? ⟨w1.heap.size + 1 + 1, 0, none⟩ = some (.func (.func 39) #[] #[]) := by rw [← hV]; simp [go_sem]
  have k5 : V.cell? ⟨w1.heap.size + 1 + 1 + 1, 0, none⟩ = some (.func (.func 56) #[] #[.pointer (some ⟨w1.heap.size + 1, 0, none⟩), .pointer (some ⟨w1.heap.size + 1 + 1, 0, none⟩)]) := by rw [← hV]; simp [go_sem]
  have hI0 : NaI a w V.heap.size [] V := ⟨HB1.out.trans (hbV.mono (by omega)), (hbV.block _ (by omega)).trans R1.out, (hbV.block _ (by omega)).trans R2.out, (hbV.block _ (by omega)).trans R3.out, by simp, Nat.le_refl _⟩
  have hIU : Under V.heap.size (NaI a w V.heap.size) := fun pre A C h hb => by
    have hz := h.size
    exact ⟨h.below.trans (hb.mono (by omega)), (hb.block _ (by omega)).trans h.atb, (hb.block _ (by omega)).trans h.res, (hb.block _ (by omega)).trans h.cod, h.no, by have := hb.size; omega⟩
  rw [hV]
  clear hV b0 b1 b2 b3 R1 R2 R3
  have hsc := T.size_cost
  refine wpIn_rangeFunc_frame3 (α := Nat × Ent) (encs := nenc) (S := fun xs => WAll T (xs.map (·.2))) (Sp := fun _ => True) (Came := NCame T w.heap.size w) (mine := fun k => k = w.heap.size + 1 + 1 ∨ k = w.heap.size + 1 + 1 + 1) 6 (by omega) rfl (by omega) (gf := 47) (lb := #[.pointer (some ⟨w1.heap.size + 1 + 1 + 1, 0, none⟩)]) rfl trivial (enters_of Tryd.func47 (by kernel_rfl) rfl)
    (fun l J Jx X hXs hbX hJ hJx hJz hY h0 => by
      have hcell : ∀ b o, b < V.heap.size → X.cell? ⟨b, o, none⟩ = V.cell? ⟨b, o, none⟩ := fun b o hb => hbX.cell (p := ⟨b, o, none⟩) hb
      exact num_in 8 (by omega) T (.slice au T.len cu) w.heap.size V.heap.size (w1.heap.size + 1 + 1 + 1) (w1.heap.size + 1) (w1.heap.size + 1 + 1) l (fun k => k = w.heap.size + 1 + 1 ∨ k = w.heap.size + 1 + 1 + 1) J Jx w X HF.out hc hXs (by omega) (by omega) (by omega) (by omega) (fun k hk => by omega) (fun k hk => (hbX.block k (by omega)).trans (hI0.below.block k hk)) HR.out hJ hJx hY h0
        ((hcell _ _ (by omega)).trans k5) ((hcell _ _ (by omega)).trans k0) ((hcell _ _ (by omega)).trans k1) ((hcell _ _ (by omega)).trans k2) ((hcell _ _ (by omega)).trans k3) ((hcell _ _ (by omega)).trans k4))
    (fun k hk => by omega) (fun _ => rfl) (NaI a w V.heap.size) (fun c pre A => c = .ret ∧ NaX T a w V.heap.size A) hIU (fun c pre A C h hb => ⟨h.1, h.2.turn (by omega) hb⟩) hI0
    (fun x X => { tmps := #[.agg #[.int .i64 T.kind, .int .i64 T.num, .string T.name, .slice au T.len cu], .int .i64 a, .pointer (some ⟨w.heap.size, 0, none⟩), .pointer (some ⟨w.heap.size + 1, 0, none⟩), .pointer (some ⟨w.heap.size + 1 + 1, 0, none⟩), .pointer (some ⟨w.heap.size + 1 + 1 + 1, 0, none⟩), .int .i64 (x.1 : Int), .pointer (some ⟨X.heap.size, 0, none⟩), .agg #[.int .i64 T.kind, .int .i64 T.num, .string T.name, .slice au T.len cu], .bool true, .bool false, undef, .agg #[.int .i64 T.kind, .int .i64 T.num, .string T.name, .slice au T.len cu], (.func (.func 56) #[] #[.pointer (some ⟨w1.heap.size + 1, 0, none⟩), .pointer (some ⟨w1.heap.size + 1 + 1, 0, none⟩)]), .func (.func 47) #[] #[.pointer (some ⟨w1.heap.size + 1 + 1 + 1, 0, none⟩)], .int .i64 (x.1 : Int), x.2.D.val x.2.v, undef, undef, undef, undef, undef, undef], defers := [] })
    (fun x X => X.alloc (.cells #[.int .i64 x.2.D.kind, .int .i64 x.2.D.num, .string x.2.D.name, x.2.v] 29)) (fun x X => (Below.refl _ _).alloc (Nat.le_refl _) _) ?assign ?body ?done ?stop
  case assign =>
    intro l' pre x X K hcame hK
    obtain ⟨xa, xc, hxv⟩ : ∃ xa xc, x.2.v = .slice xa x.2.D.len xc := by obtain ⟨a', c', h, _⟩ := row_eq.1 hcame.2.2.1; exact ⟨a', c', h⟩
    have HKK := hid_mk hK
    simp only [nenc, Nd.val] at HKK ⊢
    rw [hxv] at HKK ⊢
    clear hK
    gi_wp2
    exact HKK.out
  case body =>
    rintro l' pre x X1 X3 r hi hz hcame hX3 hi3
    have hz3 := hi3.size
    have q := hi3.atb.cell
    obtain ⟨xa, xc, hxv⟩ : ∃ xa xc, x.2.v = .slice xa x.2.D.len xc := by obtain ⟨a', c', h, _⟩ := row_eq.1 hcame.2.2.1; exact ⟨a', c', h⟩
    have hzX : X1.heap.size + 1 ≤ X3.heap.size := by rw [hX3]; simp
    have hone : X3.heap[X1.heap.size]? = some (.cells #[.int .i64 x.2.D.kind, .int .i64 x.2.D.num, .string x.2.D.name, x.2.v] 29) := by
      rw [hX3]; exact (World.putObj_heap_other (by omega)).trans (heap_alloc_new X1 _)
    have o0 : X3.cell? ⟨X1.heap.size, 0, none⟩ = some (.int .i64 x.2.D.kind) := by rw [cell_of_row _ _ _ _ _ (0, 0) hone]; rfl
    have o1 : X3.cell? ⟨X1.heap.size, 1, none⟩ = some (.int .i64 x.2.D.num) := by rw [cell_of_row _ _ _ _ _ (0, 0) hone]; rfl
    have o2 : X3.cell? ⟨X1.heap.size, 2, none⟩ = some (.string x.2.D.name) := by rw [cell_of_row _ _ _ _ _ (0, 0) hone]; rfl
    have o3 : X3.cell? ⟨X1.heap.size, 3, none⟩ = some (.slice xa x.2.D.len xc) := by rw [cell_of_row _ _ _ _ _ (0, 0) hone, hxv]; rfl
    obtain ⟨hxs, hxa⟩ := came_at hcame
    have hxl := hcame.1
    have HI := hid_mk hi3
    have HXR := hid_mk (row_below hi3.below (Nat.le_refl _) hcame.2.2.1)
    have HXF := hid_mk hcame.2.2.2
    have hxc : x.2.D.cost ≤ 1048576 := by
      have := (at_sub T hxs).1
      rw [hxa] at this; omega
    simp only [Nd.val]
    rw [hxv]
    rw [hxv] at HXR
    have HXA := hid_mk hxa
    by_cases heq : (x.1 : Int) = a
    · subst heq
      have HCP := hid_mk (fun W (hb : Below X3.heap.size X3 W) => copied_any x.2.D W (.slice xa x.2.D.len xc) w.heap.size HXF.out (by have := hb.size; omega) (row_below hb (by omega) HXR.out) hxc)
      unfold Nd.val at HCP
      clear hcame hX3 hone hi hi3 hxv hxa
      gi_wp2_with (fail)
      refine ⟨trivial, ?_⟩
      refine (callsIn_wide.2 (HCP.out _ (by first | exact Below.refl _ _ | exact (Below.refl _ _).drew))).mono ?_
      rintro e w4 ⟨u4, rfl, ht4, hb4⟩
      obtain ⟨a4, c4, rfl⟩ := tr_shape ht4
      have hz4 : X3.heap.size ≤ w4.heap.size := hb4.size
      have RB := (show ResB w4 (w.heap.size + 1 + 1) 0 0 ⟨#[]⟩ (.slice none 0 0) from (hb4.block _ (show w.heap.size + 1 + 1 < X3.heap.size by omega)).trans HI.out.res)
      have RC := (show Boxed w4 (w.heap.size + 1 + 1 + 1) 3 (.int .i64 0) from (hb4.block _ (show w.heap.size + 1 + 1 + 1 < X3.heap.size by omega)).trans HI.out.cod)
      obtain ⟨⟨d0, d1, d2, d3⟩, df⟩ := RB.cells
      have dc := RC.cell
      have dcf := RC.frozen
      obtain ⟨p0, p1, p2, p3, _, po, ps, pf⟩ := store4C w4 (w.heap.size + 1 + 1) (.int .i64 x.2.D.kind) (.int .i64 x.2.D.num) (.string x.2.D.name) (.slice a4 x.2.D.len c4) ⟨_, d0⟩ ⟨_, d1⟩ ⟨_, d2⟩ ⟨_, d3⟩
      have HT4 := hid_mk ht4
      have HB4 := hid_mk hb4
      have HP : Hid (((((w4.setCell ⟨w.heap.size + 1 + 1, 0, none⟩ (.int .i64 x.2.D.kind)).setCell ⟨w.heap.size + 1 + 1, 1, none⟩ (.int .i64 x.2.D.num)).setCell ⟨w.heap.size + 1 + 1, 2, none⟩ (.string x.2.D.name)).setCell ⟨w.heap.size + 1 + 1, 3, none⟩ (.slice a4 x.2.D.len c4)).cell? ⟨w.heap.size + 1 + 1 + 1, 0, none⟩ = some (.int .i64 0)) := (World.cell?_of_block (a := ⟨w.heap.size + 1 + 1 + 1, 0, none⟩) (po _ (show w.heap.size + 1 + 1 + 1 ≠ w.heap.size + 1 + 1 by omega))).trans dc
      have HBZ : Hid (Below w.heap.size w (((((w4.setCell ⟨w.heap.size + 1 + 1, 0, none⟩ (.int .i64 x.2.D.kind)).setCell ⟨w.heap.size + 1 + 1, 1, none⟩ (.int .i64 x.2.D.num)).setCell ⟨w.heap.size + 1 + 1, 2, none⟩ (.string x.2.D.name)).setCell ⟨w.heap.size + 1 + 1, 3, none⟩ (.slice a4 x.2.D.len c4)).setCell ⟨w.heap.size + 1 + 1 + 1, 0, none⟩ (.int .i64 0))) := by
        have hx := HI.out.below.trans (HB4.out.mono (show w.heap.size ≤ X3.heap.size by omega))
        exact ((((hx.setCell (p := ⟨w.heap.size + 1 + 1, 0, none⟩) (by show w.heap.size ≤ w.heap.size + 1 + 1; omega) _).setCell (p := ⟨w.heap.size + 1 + 1, 1, none⟩) (by show w.heap.size ≤ w.heap.size + 1 + 1; omega) _).setCell (p := ⟨w.heap.size + 1 + 1, 2, none⟩) (by show w.heap.size ≤ w.heap.size + 1 + 1; omega) _).setCell (p := ⟨w.heap.size + 1 + 1, 3, none⟩) (by show w.heap.size ≤ w.heap.size + 1 + 1; omega) _).setCell (p := ⟨w.heap.size + 1 + 1 + 1, 0, none⟩) (by show w.heap.size ≤ w.heap.size + 1 + 1 + 1; omega) _
      have HPO := hid_mk po
      have HPS := hid_mk ps
      have HP4 := hid_mk (show _ ∧ _ ∧ _ ∧ _ from ⟨p0, p1, p2, p3⟩)
      clear po ps pf p0 p1 p2 p3 o0 o1 o2 o3 ht4 hb4 q HCP RB RC
      gi_wp2
      obtain ⟨p0, p1, p2, p3⟩ := HP4.out
      have hps := HPS.out
      have hpo := HPO.out
      have hpp := HP.out
      have hbz := HBZ.out
      revert p0 p1 p2 p3 hps hpo hpp hbz
      generalize (((w4.setCell ⟨w.heap.size + 1 + 1, 0, none⟩ (.int .i64 x.2.D.kind)).setCell ⟨w.heap.size + 1 + 1, 1, none⟩ (.int .i64 x.2.D.num)).setCell ⟨w.heap.size + 1 + 1, 2, none⟩ (.string x.2.D.name)).setCell ⟨w.heap.size + 1 + 1, 3, none⟩ (.slice a4 x.2.D.len c4) = Z
      intro p0 p1 p2 p3 hps hpo hpp hbz
      have hzo : ∀ k, k ≠ w.heap.size + 1 + 1 + 1 → (Z.setCell ⟨w.heap.size + 1 + 1 + 1, 0, none⟩ (.int .i64 0)).heap[k]? = Z.heap[k]? := fun k hk => Below.heap_setCell _ _ _ _ hk
      have hzs : (Z.setCell ⟨w.heap.size + 1 + 1 + 1, 0, none⟩ (.int .i64 0)).heap.size = Z.heap.size := by simp [World.setCell]
      have hc2 : ∀ o, (Z.setCell ⟨w.heap.size + 1 + 1 + 1, 0, none⟩ (.int .i64 0)).cell? ⟨w.heap.size + 1 + 1, o, none⟩ = Z.cell? ⟨w.heap.size + 1 + 1, o, none⟩ := fun o => World.cell?_of_block (a := ⟨w.heap.size + 1 + 1, o, none⟩) (hzo _ (show w.heap.size + 1 + 1 ≠ w.heap.size + 1 + 1 + 1 by omega))
      refine ⟨⟨by omega, fun k hk hm => ?_⟩, rfl, ?_⟩
      · rw [hzo k (by omega), hpo k (by omega)]
        exact HB4.out.block k hk
      · refine ⟨hbz, ⟨by omega, by omega⟩, World.cell?_setCell_same _ _ _ hpp, ⟨.slice a4 x.2.D.len c4, w4.heap.size, ?_, by rw [hzs, hps]; omega, ?_⟩, by rw [hzs, hps]; omega⟩
        · rw [Int.toNat_natCast, HXA.out]
          exact ⟨(hc2 0).trans p0, (hc2 1).trans p1, (hc2 2).trans p2, (hc2 3).trans p3⟩
        · rw [Int.toNat_natCast, HXA.out]
          exact tr_wide (tr_keep (fun k k1 k2 => by rw [hzo k (by omega), hpo k (by omega)]) HT4.out) (by omega) (Nat.le_refl _)
    · have heq2 : ¬ (pre.length : Int) = a := by omega
      have HNO := hid_mk hi3.no
      have hne : ((x.1 : Int) == a) = false := by simpa using heq
      clear hcame hX3 hone hi hi3 hxv hxa o0 o1 o2 o3
      gi_wp2
      have h := HI.out
      refine ⟨KeptF.refl _ _, ⟨h.below, h.atb, h.res, h.cod, ?_, h.size⟩⟩
      have := HNO.out
      simp only [List.length_append, List.length_cons, List.length_nil]
      omega
  case done =>
    rintro D xs X hD hS hi hK
    have hlen : xs.length = T.size := by
      have := congrArg List.length hS
      rw [pre_len] at this
      simpa using this
    have hno : ¬ (0 ≤ a ∧ a < (T.size : Int)) := by have := hi.no; rw [hlen] at this; exact this
    have hnT : naT T a = .nil := by unfold naT; rw [if_pos htb, if_neg hno]
    have hnC : naC T a = 11 := by unfold naC; rw [if_pos htb, if_neg hno]
    obtain ⟨⟨d0, d1, d2, d3⟩, df⟩ := hi.res.cells
    have dc := hi.cod.cell
    have dcf := hi.cod.frozen
    have hsz := hi.size
    obtain ⟨p0, p1, p2, p3, _, po, ps, pf⟩ := store4C X (w.heap.size + 1 + 1) (.int .i64 0) (.int .i64 0) (.string ⟨#[]⟩) (.slice none 0 0) ⟨_, d0⟩ ⟨_, d1⟩ ⟨_, d2⟩ ⟨_, d3⟩
    have HI := hid_mk hi
    have HK := hid_mk hK
    have HPO := hid_mk po
    have HPS := hid_mk ps
    have HP4 := hid_mk (show _ ∧ _ ∧ _ ∧ _ from ⟨p0, p1, p2, p3⟩)
    have HNT := hid_mk hnT
    have HNC := hid_mk hnC
    have HP : Hid (((((X.setCell ⟨w.heap.size + 1 + 1, 0, none⟩ (.int .i64 0)).setCell ⟨w.heap.size + 1 + 1, 1, none⟩ (.int .i64 0)).setCell ⟨w.heap.size + 1 + 1, 2, none⟩ (.string ⟨#[]⟩)).setCell ⟨w.heap.size + 1 + 1, 3, none⟩ (.slice none 0 0)).cell? ⟨w.heap.size + 1 + 1 + 1, 0, none⟩ = some (.int .i64 0)) := (World.cell?_of_block (a := ⟨w.heap.size + 1 + 1 + 1, 0, none⟩) (po _ (show w.heap.size + 1 + 1 + 1 ≠ w.heap.size + 1 + 1 by omega))).trans dc
    have HBZ : Hid (Below w.heap.size w (((((X.setCell ⟨w.heap.size + 1 + 1, 0, none⟩ (.int .i64 0)).setCell ⟨w.heap.size + 1 + 1, 1, none⟩ (.int .i64 0)).setCell ⟨w.heap.size + 1 + 1, 2, none⟩ (.string ⟨#[]⟩)).setCell ⟨w.heap.size + 1 + 1, 3, none⟩ (.slice none 0 0)).setCell ⟨w.heap.size + 1 + 1 + 1, 0, none⟩ (.int .i64 11))) := by
      have hx := HI.out.below
      exact ((((hx.setCell (p := ⟨w.heap.size + 1 + 1, 0, none⟩) (by show w.heap.size ≤ w.heap.size + 1 + 1; omega) _).setCell (p := ⟨w.heap.size + 1 + 1, 1, none⟩) (by show w.heap.size ≤ w.heap.size + 1 + 1; omega) _).setCell (p := ⟨w.heap.size + 1 + 1, 2, none⟩) (by show w.heap.size ≤ w.heap.size + 1 + 1; omega) _).setCell (p := ⟨w.heap.size + 1 + 1, 3, none⟩) (by show w.heap.size ≤ w.heap.size + 1 + 1; omega) _).setCell (p := ⟨w.heap.size + 1 + 1 + 1, 0, none⟩) (by show w.heap.size ≤ w.heap.size + 1 + 1 + 1; omega) _
    clear hS hi hK po ps pf p0 p1 p2 p3 hnT hnC hI0 hIU k0 k1 k2 k3 k4 k5
    gi_wp2
    obtain ⟨p0, p1, p2, p3⟩ := HP4.out
    have hps := HPS.out
    have hpo := HPO.out
    have hpp := HP.out
    have hbz := HBZ.out
    revert p0 p1 p2 p3 hps hpo hpp hbz
    generalize (((X.setCell ⟨w.heap.size + 1 + 1, 0, none⟩ (.int .i64 0)).setCell ⟨w.heap.size + 1 + 1, 1, none⟩ (.int .i64 0)).setCell ⟨w.heap.size + 1 + 1, 2, none⟩ (.string ⟨#[]⟩)).setCell ⟨w.heap.size + 1 + 1, 3, none⟩ (.slice none 0 0) = Z
    intro p0 p1 p2 p3 hps hpo hpp hbz
    have hc2 : ∀ o, (Z.setCell ⟨w.heap.size + 1 + 1 + 1, 0, none⟩ (.int .i64 11)).cell? ⟨w.heap.size + 1 + 1, o, none⟩ = Z.cell? ⟨w.heap.size + 1 + 1, o, none⟩ := fun o => World.cell?_of_block (a := ⟨w.heap.size + 1 + 1, o, none⟩) (Below.heap_setCell _ _ _ _ (show w.heap.size + 1 + 1 ≠ w.heap.size + 1 + 1 + 1 by omega))
    have hcc := World.cell?_setCell_same Z ⟨w.heap.size + 1 + 1 + 1, 0, none⟩ (.int .i64 11) hpp
    have hK2 : (Z.setCell ⟨w.heap.size + 1 + 1 + 1, 0, none⟩ (.int .i64 11)).heap[D]? = some (.deferred (some [])) := (Below.heap_setCell _ _ _ _ (show D ≠ w.heap.size + 1 + 1 + 1 by omega)).trans ((hpo D (by omega)).trans HK.out)
    rw [← hc2] at p0 p1 p2 p3
    obtain ⟨Y, hY⟩ : ∃ Y, Z.setCell ⟨w.heap.size + 1 + 1 + 1, 0, none⟩ (.int .i64 11) = Y := ⟨_, rfl⟩
    rw [hY] at p0 p1 p2 p3 hcc hK2 hbz ⊢
    refine ⟨by simp, .inl ⟨_, _, rfl, run_takeDeferred hK2, ?_⟩⟩
    have gp := grownBy_putObj' Y D (.deferred none)
    have hg : ∀ b o, b ≠ D → (Y.putObj D (.deferred none)).cell? ⟨b, o, none⟩ = Y.cell? ⟨b, o, none⟩ := fun b o hb => World.cell?_of_block (a := ⟨b, o, none⟩) (World.putObj_heap_other hb)
    rw [← hg _ _ (by omega)] at p0 p1 p2 p3 hcc
    refine ⟨.tuple #[.agg #[.int .i64 0, .int .i64 0, .string ⟨#[]⟩, .slice none 0 0], .int .i64 11], by simp [results, Tryd.results14, go_sem, p0, p1, p2, p3, hcc], .slice none 0 0, by rw [HNT.out, HNC.out]; rfl, by rw [HNT.out]; exact tr_none _ _ _, ?_⟩
    exact hbz.grown gp (by have := hbz.size; omega) (fun k e => by have := Option.some.inj e; omega)
  case stop =>
    rintro D c pre X hD _ ⟨rfl, hx⟩ hK
    obtain ⟨u, hi', ⟨p0, p1, p2, p3⟩, h2, h3⟩ := hx.res
    obtain ⟨ua, uc, rfl⟩ := tr_shape h3
    have hcc := hx.cod
    have hnT : naT T a = atT T a.toNat := by unfold naT; rw [if_pos htb, if_pos hx.inn]
    have hnC : naC T a = 0 := by unfold naC; rw [if_pos htb, if_pos hx.inn]
    have HNT := hid_mk hnT
    have HNC := hid_mk hnC
    have HX := hid_mk hx
    have HK := hid_mk hK
    have HTR := hid_mk h3
    generalize atT T a.toNat = R at *
    clear hx hK h3 hnT hnC hI0 hIU k0 k1 k2 k3 k4 k5
    gi_wp2
    refine ⟨by simp, .inl ⟨_, _, rfl, run_takeDeferred HK.out, ?_⟩⟩
    have gp := grownBy_putObj' X D (.deferred none)
    have hsx := HX.out.size
    have hbz := HX.out.below
    have hg : ∀ b o, b ≠ D → (X.putObj D (.deferred none)).cell? ⟨b, o, none⟩ = X.cell? ⟨b, o, none⟩ := fun b o hb => World.cell?_of_block (a := ⟨b, o, none⟩) (World.putObj_heap_other hb)
    rw [← hg _ _ (by omega)] at p0 p1 p2 p3 hcc
    have hzp : (X.putObj D (.deferred none)).heap.size = X.heap.size := by simp
    refine ⟨.tuple #[.agg #[.int .i64 R.kind, .int .i64 R.num, .string R.name, .slice ua R.len uc], .int .i64 0], by simp [results, Tryd.results14, go_sem, p0, p1, p2, p3, hcc], .slice ua R.len uc, by rw [HNT.out, HNC.out]; rfl, ?_, ?_⟩
    · rw [HNT.out, hzp]
      exact tr_wide (tr_keep (fun k k1 k2 => World.putObj_heap_other (by omega)) HTR.out) (by omega) h2
    · exact hbz.grown gp (by omega) (fun k e => by have := Option.some.inj e; omega)
end Go.Proofs.YtdcpmkhebfcfgaaDoor
namespace Go.Proofs.YtdcpmkhebfcfgaaDoor
open Go.RowKit

set_option maxHeartbeats 4000000 in
theorem impl_nodeat (T : Nd) (a : Int) (w : World) (v : Value) (hf : T.Fine) (hr : Row 0 w.heap.size w T v) (hc : T.cost ≤ 1048576) (ht : Tabs w) :
    Calls Tryd.prog 14 #[T.val v, .int .i64 a] w fun e w' => ∃ u, e = .returned (.tuple #[(naT T a).val u, .int .i64 (naC T a)]) ∧ Tr w' (naT T a) w.heap.size w'.heap.size u ∧ Below w.heap.size w w' := by
  cases htb : treeB T with
  | true => exact impl_nodeat_ok T a w v hf hr hc ht htb
  | false =>
    obtain ⟨au, cu, hu, -⟩ := row_eq.1 hr
    subst hu
    have HT := hid_mk (fun W (hb : Below w.heap.size w W) => by
      have := impl_tree T W (.slice au T.len cu) hf (row_wide (row_below hb (Nat.le_refl _) hr) (Nat.le_refl _) hb.size) hc (tabs_below ht hb)
      rw [tree_one, htb] at this; exact this)
    clear hr hf ht
    have hnT : naT T a = .nil := by unfold naT; rw [if_neg (by rw [htb]; simp)]
    have hnC : naC T a = 1 := by unfold naC; rw [if_neg (by rw [htb]; simp)]
    rw [hnT, hnC]
    generalize hW0 : (((w.alloc (.cells #[.int .i64 T.kind, .int .i64 T.num, .string T.name, .slice au T.len cu] 29)).alloc (.cells #[.int .i64 a] 3)).alloc (.cells #[.int .i64 0, .int .i64 0, .string ⟨#[]⟩, .slice none 0 0] 29)).alloc (.cells #[.int .i64 0] 3) = W0
    have hb0 : Hid (Below w.heap.size w W0) := by rw [← hW0]; exact ((((Below.refl _ _).alloc (Nat.le_refl _) _).alloc (by simp) _).alloc (by simp; omega) _).alloc (by simp; omega) _
    have hz0' : W0.heap.size = w.heap.size + 1 + 1 + 1 + 1 := by rw [← hW0]; simp
    have HC0 : Hid ((W0.cell? ⟨w.heap.size + 1 + 1, 0, none⟩ = some (.int .i64 0) ∧ W0.cell? ⟨w.heap.size + 1 + 1, 1, none⟩ = some (.int .i64 0) ∧ W0.cell? ⟨w.heap.size + 1 + 1, 2, none⟩ = some (.string ⟨#[]⟩) ∧ W0.cell? ⟨w.heap.size + 1 + 1, 3, none⟩ = some (.slice none 0 0)) ∧ (∀ o, W0.frozen? ⟨w.heap.size + 1 + 1, o, none⟩ = false) ∧ W0.cell? ⟨w.heap.size + 1 + 1 + 1, 0, none⟩ = some (.int .i64 0) ∧ W0.frozen? ⟨w.heap.size + 1 + 1 + 1, 0, none⟩ = false) := by
      rw [← hW0]; unfold Hid; simp [go_sem]
    have HW0 := hid_mk hW0
    have HZ0 := hid_mk hz0'
    clear hW0 hz0' hnT hnC
    unfold Nd.val at HT
    have e0 : T.val (.slice au T.len cu) = .agg #[.int .i64 T.kind, .int .i64 T.num, .string T.name, .slice au T.len cu] := rfl
    rw [e0]
    clear e0
    go_enter Tryd.func14, Tryd.ntmps14
    go_wp2_with fail
    rw [HW0.out]
    refine (HT.out W0 hb0.out).mono ?_
    rintro e w1 ⟨rfl, hb1⟩
    have hzz := HZ0.out
    obtain ⟨c1, f1⟩ := bcellO hb1
    obtain ⟨⟨d0, d1, d2, d3⟩, hfz, dc, dcf⟩ := HC0.out
    rw [← c1 _ _ (by omega)] at d0 d1 d2 d3 dc
    rw [← f1 _ _ (by omega)] at dcf
    have q0 := fun o => (f1 (w.heap.size + 1 + 1) o (by omega)).trans (hfz o)
    have HB1 := hid_mk (hb0.out.trans (hb1.mono (by omega)))
    clear c1 f1 hfz hb1
    obtain ⟨p0, p1, p2, p3, _, po, ps, pf⟩ := store4C w1 (w.heap.size + 1 + 1) (.int .i64 0) (.int .i64 0) (.string ⟨#[]⟩) (.slice none 0 0) ⟨_, d0⟩ ⟨_, d1⟩ ⟨_, d2⟩ ⟨_, d3⟩
    have HP : Hid (((((w1.setCell ⟨w.heap.size + 1 + 1, 0, none⟩ (.int .i64 0)).setCell ⟨w.heap.size + 1 + 1, 1, none⟩ (.int .i64 0)).setCell ⟨w.heap.size + 1 + 1, 2, none⟩ (.string ⟨#[]⟩)).setCell ⟨w.heap.size + 1 + 1, 3, none⟩ (.slice none 0 0)).cell? ⟨w.heap.size + 1 + 1 + 1, 0, none⟩ = some (.int .i64 0)) := (World.cell?_of_block (a := ⟨w.heap.size + 1 + 1 + 1, 0, none⟩) (po _ (show w.heap.size + 1 + 1 + 1 ≠ w.heap.size + 1 + 1 by omega))).trans dc
    have HBZ : Hid (Below w.heap.size w (((((w1.setCell ⟨w.heap.size + 1 + 1, 0, none⟩ (.int .i64 0)).setCell ⟨w.heap.size + 1 + 1, 1, none⟩ (.int .i64 0)).setCell ⟨w.heap.size + 1 + 1, 2, none⟩ (.string ⟨#[]⟩)).setCell ⟨w.heap.size + 1 + 1, 3, none⟩ (.slice none 0 0)).setCell ⟨w.heap.size + 1 + 1 + 1, 0, none⟩ (.int .i64 1))) :=
      ((((HB1.out.setCell (p := ⟨w.heap.size + 1 + 1, 0, none⟩) (by show w.heap.size ≤ w.heap.size + 1 + 1; omega) _).setCell (p := ⟨w.heap.size + 1 + 1, 1, none⟩) (by show w.heap.size ≤ w.heap.size + 1 + 1; omega) _).setCell (p := ⟨w.heap.size + 1 + 1, 2, none⟩) (by show w.heap.size ≤ w.heap.size + 1 + 1; omega) _).setCell (p := ⟨w.heap.size + 1 + 1, 3, none⟩) (by show w.heap.size ≤ w.heap.size + 1 + 1; omega) _).setCell (p := ⟨w.heap.size + 1 + 1 + 1, 0, none⟩) (by show w.heap.size ≤ w.heap.size + 1 + 1 + 1; omega) _
    have HP4 := hid_mk (show _ ∧ _ ∧ _ ∧ _ from ⟨p0, p1, p2, p3⟩)
    clear po ps pf p0 p1 p2 p3
    go_wp2
    obtain ⟨p0, p1, p2, p3⟩ := HP4.out
    have hpp := HP.out
    have hbz := HBZ.out
    revert p0 p1 p2 p3 hpp hbz
    generalize (((w1.setCell ⟨w.heap.size + 1 + 1, 0, none⟩ (.int .i64 0)).setCell ⟨w.heap.size + 1 + 1, 1, none⟩ (.int .i64 0)).setCell ⟨w.heap.size + 1 + 1, 2, none⟩ (.string ⟨#[]⟩)).setCell ⟨w.heap.size + 1 + 1, 3, none⟩ (.slice none 0 0) = Z
    intro p0 p1 p2 p3 hpp hbz
    have hc2 : ∀ o, (Z.setCell ⟨w.heap.size + 1 + 1 + 1, 0, none⟩ (.int .i64 1)).cell? ⟨w.heap.size + 1 + 1, o, none⟩ = Z.cell? ⟨w.heap.size + 1 + 1, o, none⟩ := fun o => World.cell?_of_block (a := ⟨w.heap.size + 1 + 1, o, none⟩) (Below.heap_setCell _ _ _ _ (show w.heap.size + 1 + 1 ≠ w.heap.size + 1 + 1 + 1 by omega))
    have hcc := World.cell?_setCell_same Z ⟨w.heap.size + 1 + 1 + 1, 0, none⟩ (.int .i64 1) hpp
    rw [← hc2] at p0 p1 p2 p3
    exact bodyPost_ret (v := .tuple #[.agg #[.int .i64 0, .int .i64 0, .string ⟨#[]⟩, .slice none 0 0], .int .i64 1]) (by simp [results, Tryd.results14, go_sem, p0, p1, p2, p3, hcc]) rfl ⟨.slice none 0 0, rfl, tr_none _ _ _, hbz⟩
end Go.Proofs.YtdcpmkhebfcfgaaDoor
