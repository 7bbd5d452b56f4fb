import Derived.Test.YtkfbbdhidecefaaDoorUD0
set_option linter.unusedVariables false
set_option maxHeartbeats 16000000
set_option maxRecDepth 100000
namespace Go.Proofs.YtkfbbdhidecefaaDoor
open Go.RowKit
variable {G : Prop}
theorem bf0 (h : G := by
 go_wp2_with (first
  |(go_at_call 22; refine (HP.out.add _ (by have := HB.out; simp at this ⊢; omega)).mono ?_; rintro e w2 ⟨rfl, hp⟩; obtain ⟨b0, b1, b2, b3⟩ := HN.out _ _ hp; obtain ⟨ja, iZ, iY, iX⟩ := gY.out _ _ hp; have HP := aa hp; clear hp)
  |(go_at_call_of 81 u0; refine (HP.out.expr tS.out 1 u0 tD.out sV.out tE.out (by decide) (by have := HB.out; simp at this ⊢; omega)).mono ?_; rintro e w2 ⟨rfl, hp⟩; obtain ⟨b0, b1, b2, b3⟩ := HN.out _ _ hp; obtain ⟨ja, iZ, iY, iX⟩ := gY.out _ _ hp; have HP := aa hp; clear hp))
 go_end0
 exact HP.out.addsB (by simp)) : G := h
theorem bf1 (h : G := by
 unfold Oper.wp execOp
 simp only [ho, resolve, invoke, builtin, Sem.run_bind, Sem.run_pure, Result.andThen_ok, List.map_toArray, List.map_cons, List.map_nil, hs, hx, hr]
 exact hK _ _ (h v' w' h2 h3 h4 h5)) : G := h
theorem bf2 (h : G := by
 rcases h2.2 with ⟨rfl, _⟩ | ⟨g, cap, cur, rfl, _⟩
 ·exact ⟨_, _, _, rfl⟩
 ·exact ⟨_, _, _, rfl⟩) : G := h
theorem bf3 (h : G := by
 rcases ho.2 with ⟨rfl, _⟩ | ⟨g, cap, cur, rfl, _⟩
 ·exact ⟨_, _, _, rfl⟩
 ·exact ⟨_, _, _, rfl⟩) : G := h
theorem bf4 (h : G := by
 rw [Aw] at hr
 injection hr with e1 e2
 subst e1
 exact .inr ⟨w.heap.size, rfl, Nat.le_refl _⟩) : G := h
theorem bf5 (h : G := by
 have tE := aa si
 have k_f8_0 := kk
 exact bf8) : G := h
theorem bf6 (h : G := by
 have k_f8_1 := kk
 exact bf8) : G := h
theorem bf7 (h : G := by
 have zC : ∃ a l c, v' = .slice a l c := by
  exact bf2
 refine ⟨v', w', hr, h2, h3, ?_, zC⟩
 rcases bK.2 with ⟨rfl, rfl⟩ | ⟨g, cap, cur, rfl, hbg, hg, hnc, uW, El, RF⟩
 first
 |clear k_f7_0
  ·by_cases hm : s.size = 0
   ·exact .inl (by rw [h4.2 ⟨rfl, hm⟩])
   ·have Aw := run_append_nil_string (P := P) w t u ty e i (.int .u8 0) ht hu hi hz s (by omega) (by omega) (by rw [yI]; omega)
    exact bf4
  ·by_cases xh : n + s.size ≤ cap
   ·have hcs' : cur.size = cap := by simpa using El
    have Aw := Lib.run_append_room_string (P := P) w t u ty e i ht hu hi lQ g n cap cur hg s xh (by omega)
    rw [Aw] at hr
    injection hr with e1 e2
    subst e1
    exact .inl rfl
   ·have holds : ∀ j u, xs[j]? = some u → w.cell? ((⟨g, 0, none⟩ : Addr).add j) = some u := bK.cells (g := g) rfl
    have Aw := Lib.run_append_grow_string (P := P) w t u ty e i (.int .u8 0) ht hu hi hz ⟨g, 0, none⟩ n cap xs (by rw [lQ]; simpa using Cs) holds s (by omega) (by omega) (by rw [yI]; exact growslice_fits (by omega) (by omega))
    exact bf4
 |clear k_f7_1
  ·by_cases hm : m = 0
   ·exact .inl (by rw [h4.2 ⟨rfl, hm⟩])
   ·have Aw := run_append_nil (P := P) w t ty e i (.int .u8 0) ht hi hz a m c news (by rw [lQ]; exact hl) nw (by omega) (by omega) (by rw [yI]; omega)
    exact bf4
  ·by_cases xh : n + m ≤ cap
   ·have hcs' : cur.size = cap := by simpa using El
    have Aw := run_append_room (P := P) w t ty e i ht hi g n cap cur hg a m c news (by rw [lQ]; exact hl) nw h1 xh (by rw [lQ]; omega)
    rw [Aw] at hr
    injection hr with e1 e2
    subst e1
    exact .inl rfl
   ·have holds : ∀ j u, xs[j]? = some u → w.cell? ((⟨g, 0, none⟩ : Addr).add j) = some u := bK.cells (g := g) rfl
    have Aw := run_append_grow (P := P) w t ty e i (.int .u8 0) ht hi hz ⟨g, 0, none⟩ n cap xs (by rw [lQ]; simpa using Cs) holds a m c news (by rw [lQ]; exact hl) nw (by omega) (by omega) (by rw [yI]; exact growslice_fits (by omega) (by omega))
    exact bf4) : G := h
theorem bf8 (h : G := by
 obtain ⟨g, off, cap, rfl, hg, bQ, bz⟩ := nt hr (by omega)
 obtain ⟨u0, iW, gV⟩ := bz 0 (by omega)
 simp only [Nat.zero_mul, Nat.add_zero] at iW
 have mj : 0 < T.len := by omega
 first
 |clear k_f8_0
  unfold Nd.val
  rw [hk]
  first
  |clear k_f5_0
   have HP := aa (Pst.startB ai (.cells #[.int .i64 29, .int .i64 T.num, .string T.name, .slice (some ⟨g, off, none⟩) T.len cap] 27))
   have HN := aa (Pst.node ai (.int .i64 29) (.int .i64 T.num) (.string T.name) (.slice (some ⟨g, off, none⟩) T.len cap) 27)
   have gY := aa (fun Y W (h : Pst ob own (w.alloc (.cells #[.int .i64 29, .int .i64 T.num, .string T.name, .slice (some ⟨g, off, none⟩) T.len cap] 27)) Y W) => iW W (h.belowB ai))
   have sV := aa (aK ai gV (.cells #[.int .i64 29, .int .i64 T.num, .string T.name, .slice (some ⟨g, off, none⟩) T.len cap] 27))
   have tS := aa (ih 0 mj)
   have tD := aa (Nd.fine_kid hf mj)
   have HB := aa hb
   clear hlen si ih hb hr hf ax ai hk iW gV bz bQ
   generalize T.kids 0 = K0 at *
   generalize T.name = ts at *
   generalize T.num = tn at *
   go_enter Tryd.func81, Tryd.ntmps81
   go_wp2_with (first
    |(go_at_call 22; refine (HP.out.add _ (by have := HB.out; simp at this ⊢; omega)).mono ?_; rintro e w2 ⟨rfl, hp⟩; obtain ⟨b0, b1, b2, b3⟩ := HN.out _ _ hp; obtain ⟨ja, iZ, iY, iX⟩ := gY.out _ _ hp; have HP := aa hp; clear hp)
    |(go_at_call_of 81 u0; refine (HP.out.expr tS.out 6 u0 tD.out sV.out tE.out (by decide) (by have := HB.out; simp at this ⊢; omega)).mono ?_; rintro e w2 ⟨rfl, hp⟩; obtain ⟨b0, b1, b2, b3⟩ := HN.out _ _ hp; obtain ⟨ja, iZ, iY, iX⟩ := gY.out _ _ hp; have HP := aa hp; clear hp))
   go_end0
   exact HP.out.addsB (by simp)
  |clear k_f5_1
   have HP := aa (Pst.startB ai (.cells #[.int .i64 27, .int .i64 T.num, .string T.name, .slice (some ⟨g, off, none⟩) T.len cap] 27))
   have HN := aa (Pst.node ai (.int .i64 27) (.int .i64 T.num) (.string T.name) (.slice (some ⟨g, off, none⟩) T.len cap) 27)
   have gY := aa (fun Y W (h : Pst ob own (w.alloc (.cells #[.int .i64 27, .int .i64 T.num, .string T.name, .slice (some ⟨g, off, none⟩) T.len cap] 27)) Y W) => iW W (h.belowB ai))
   have sV := aa (aK ai gV (.cells #[.int .i64 27, .int .i64 T.num, .string T.name, .slice (some ⟨g, off, none⟩) T.len cap] 27))
   have tS := aa (ih 0 mj)
   have tD := aa (Nd.fine_kid hf mj)
   have hs : T.name.size ≤ 1099511627776 := by
    have := hb
    simp at this
    omega
   have HB := aa hb
   clear hlen si ih hb hr hf ax ai hk iW gV bz bQ
   generalize T.kids 0 = K0 at *
   generalize T.name = ts at *
   generalize T.num = tn at *
   simp only [← ByteArray.toList_eq] at HB ⊢
   have CD : (ts.toList = [45] ∧ K0.kind = 27 ∧ K0.name.toList = [45]) ↔ ((ts.toList == [45]) && ((K0.kind == 27) && (K0.name.toList == [45]))) = true := by simp
   cases h1 : (ts.toList == [45])
   all_goals cases h2 : (K0.kind == 27)
   all_goals cases h3 : (K0.name.toList == [45])
   all_goals rw [h1, h2, h3] at CD
   all_goals simp only [Bool.and_self, Bool.and_true, Bool.and_false, Bool.false_eq_true, iff_false] at CD
   all_goals simp only [CD, if_true, if_false] at HB ⊢
   all_goals clear CD
   all_goals simp only [ByteArray.toList_eq] at HB ⊢
   all_goals go_enter Tryd.func81, Tryd.ntmps81
   case true.true.true =>
    exact bf0
   all_goals go_wp2_with (first
    |(go_at_call 22; refine (HP.out.add _ (by have := HB.out; simp at this ⊢; omega)).mono ?_; rintro e w2 ⟨rfl, hp⟩; obtain ⟨b0, b1, b2, b3⟩ := HN.out _ _ hp; obtain ⟨ja, iZ, iY, iX⟩ := gY.out _ _ hp; have HP := aa hp; clear hp)
    |(go_at_call_of 81 u0; refine (HP.out.expr tS.out 6 u0 tD.out sV.out tE.out (by decide) (by have := HB.out; simp at this ⊢; omega)).mono ?_; rintro e w2 ⟨rfl, hp⟩; obtain ⟨b0, b1, b2, b3⟩ := HN.out _ _ hp; obtain ⟨ja, iZ, iY, iX⟩ := gY.out _ _ hp; have HP := aa hp; clear hp))
   all_goals go_end0
   all_goals exact HP.out.addsB (by simp)
 |clear k_f8_1
  first
  |clear k_f6_0
   unfold Nd.val
   rw [hk]
   have HP := aa (Pst.startB ai (.cells #[.int .i64 26, .int .i64 T.num, .string T.name, .slice (some ⟨g, off, none⟩) T.len cap] 27))
   have HN := aa (Pst.node ai (.int .i64 26) (.int .i64 T.num) (.string T.name) (.slice (some ⟨g, off, none⟩) T.len cap) 27)
   have gY := aa (fun Y W (h : Pst ob own (w.alloc (.cells #[.int .i64 26, .int .i64 T.num, .string T.name, .slice (some ⟨g, off, none⟩) T.len cap] 27)) Y W) => iW W (h.belowB ai))
   have sV := aa (aK ai gV (.cells #[.int .i64 26, .int .i64 T.num, .string T.name, .slice (some ⟨g, off, none⟩) T.len cap] 27))
   have tS := aa (ih 0 mj)
   have tD := aa (Nd.fine_kid hf mj)
   have HB := aa hb
   clear hE h0 hl2 hlen ih hb hr hf ax ai hk iW gV bz bQ
   generalize T.kids 0 = K0 at *
   generalize T.name = ts at *
   generalize T.num = tn at *
   go_enter Tryd.func81, Tryd.ntmps81
   exact bf0
  |clear k_f6_1
   obtain ⟨u1, iQ, mi⟩ := bz 1 (by omega)
   simp only [Nat.one_mul] at iQ
   have qV : 1 < T.len := by omega
   unfold Nd.val
   rw [hk]
   have HP := aa (Pst.startB ai (.cells #[.int .i64 28, .int .i64 T.num, .string T.name, .slice (some ⟨g, off, none⟩) T.len cap] 27))
   have HN := aa (Pst.node ai (.int .i64 28) (.int .i64 T.num) (.string T.name) (.slice (some ⟨g, off, none⟩) T.len cap) 27)
   have gY := aa (fun Y W (h : Pst ob own (w.alloc (.cells #[.int .i64 28, .int .i64 T.num, .string T.name, .slice (some ⟨g, off, none⟩) T.len cap] 27)) Y W) => iW W (h.belowB ai))
   have sV := aa (aK ai gV (.cells #[.int .i64 28, .int .i64 T.num, .string T.name, .slice (some ⟨g, off, none⟩) T.len cap] 27))
   have tS := aa (ih 0 mj)
   have tD := aa (Nd.fine_kid hf mj)
   have mI := aa (fun Y W (h : Pst ob own (w.alloc (.cells #[.int .i64 28, .int .i64 T.num, .string T.name, .slice (some ⟨g, off, none⟩) T.len cap] 27)) Y W) => iQ W (h.belowB ai))
   have C5 := aa (aK ai mi (.cells #[.int .i64 28, .int .i64 T.num, .string T.name, .slice (some ⟨g, off, none⟩) T.len cap] 27))
   have M9 := aa (ih 1 qV)
   have II := aa (Nd.fine_kid hf qV)
   have HB := aa hb
   have hs : T.name.size ≤ 1099511627776 := by
    have := hb
    unfold zk at this
    split at this <;> simp at this <;> omega
   have HL := aa (fun W : World => tJ T.name W)
   clear hlen si KJ ih hb hr hf ax ai hk iW gV iQ mi bz bQ
   generalize T.kids 0 = K0 at *
   generalize T.kids 1 = K1 at *
   generalize T.name = ts at *
   generalize T.num = tn at *
   generalize lX ts = lv at *
   by_cases bm : lv < l
   all_goals simp only [bm, decide_true, decide_false, zk, if_true, if_false, Bool.false_eq_true] at HB ⊢
   all_goals go_enter Tryd.func81, Tryd.ntmps81
   all_goals go_wp2_with (first
    |(go_at_call 88; refine (HL.out _).mono ?_; rintro e w2 ⟨rfl, hb⟩; have hp := HP.out.calm hb; obtain ⟨b0, b1, b2, b3⟩ := HN.out _ _ hp; obtain ⟨ja, iZ, iY, iX⟩ := gY.out _ _ hp; obtain ⟨om, oe, oj, oc⟩ := mI.out _ _ hp; have HP := aa hp; clear hp hb)
    |(go_at_call 22; refine (HP.out.add _ (by have := HB.out; simp at this ⊢; omega)).mono ?_; rintro e w2 ⟨rfl, hp⟩; obtain ⟨b0, b1, b2, b3⟩ := HN.out _ _ hp; obtain ⟨ja, iZ, iY, iX⟩ := gY.out _ _ hp; obtain ⟨om, oe, oj, oc⟩ := mI.out _ _ hp; have HP := aa hp; clear hp)
    |(go_at_call_of 81 u0; refine (HP.out.expr tS.out lv u0 tD.out sV.out tE.out (by omega) (by have := HB.out; simp at this ⊢; omega)).mono ?_; rintro e w2 ⟨rfl, hp⟩; obtain ⟨b0, b1, b2, b3⟩ := HN.out _ _ hp; obtain ⟨ja, iZ, iY, iX⟩ := gY.out _ _ hp; obtain ⟨om, oe, oj, oc⟩ := mI.out _ _ hp; have HP := aa hp; clear hp)
    |(go_at_call_of 81 u1; refine (HP.out.expr M9.out (lv + 1) u1 II.out C5.out Ar.out (by omega) (by have := HB.out; simp at this ⊢; omega)).mono ?_; rintro e w2 ⟨rfl, hp⟩; obtain ⟨b0, b1, b2, b3⟩ := HN.out _ _ hp; obtain ⟨ja, iZ, iY, iX⟩ := gY.out _ _ hp; obtain ⟨om, oe, oj, oc⟩ := mI.out _ _ hp; have HP := aa hp; clear hp))
   all_goals go_end0
   all_goals exact HP.out.addsB (by simp)) : G := h
def EN (l : List UInt8) : List Value := l.map fun b => Value.int .u8 b.toNat
def Buf (ob : Nat) (w : World) (own : Option Nat) (X : List UInt8) : Prop :=
 ∃ v, w.heap[ob]? = some (.cells #[v] 54 (0, 0)) ∧ w.ownsRow (ob + 1) 5 1 v X.length (EN X) ∧ v.ownBlock = own
structure Wrote (ob : Nat) (own mz : Option Nat) (w w' : World) : Prop where
 os : w'.os = w.os
 tape : w'.tape = w.tape
 output : w'.output = w.output
 size : w.heap.size ≤ w'.heap.size
 block : ∀ k, k < w.heap.size → k ≠ ob → some k ≠ own → w'.heap[k]? = w.heap[k]?
 fresh : mz = own ∨ ∃ k, mz = some k ∧ w.heap.size ≤ k
theorem Wrote.refl (ob : Nat) (own : Option Nat) (w : World) : Wrote ob own own w w := ⟨rfl, rfl, rfl, Nat.le_refl _, fun _ _ _ _ => rfl, .inl rfl⟩
theorem Wrote.trans {ob : Nat} {o0 o1 o2 : Option Nat} {a b c : World} (h : Wrote ob o0 o1 a b) (k : Wrote ob o1 o2 b c) : Wrote ob o0 o2 a c := by
 have hs := h.size
 refine ⟨k.os.trans h.os, k.tape.trans h.tape, k.output.trans h.output, Nat.le_trans h.size k.size, fun i hi h1 h2 => ?_, ?_⟩
 ·refine (k.block i (by omega) h1 ?_).trans (h.block i hi h1 h2)
  rcases h.fresh with e | ⟨j, e, hj⟩
  ·rw [e]; exact h2
  ·rw [e]; intro e'; injection e' with e'; omega
 ·rcases k.fresh with e | ⟨j, e, hj⟩
  ·rw [e]; exact h.fresh
  ·exact .inr ⟨j, e, by omega⟩
theorem Wrote.alloc (ob : Nat) (own : Option Nat) (w : World) (o : Obj) : Wrote ob own own w (w.alloc o) :=
 ⟨rfl, rfl, rfl, by simp, fun k hk _ _ => Below.heap_alloc w o k hk, .inl rfl⟩
theorem Buf.lt {ob : Nat} {w : World} {own : Option Nat} {X : List UInt8} (h : Buf ob w own X) : ob < w.heap.size := by
 obtain ⟨v, hv, _⟩ := h; exact (Array.getElem?_eq_some_iff.1 hv).1
theorem Buf.own_gt {ob : Nat} {w : World} {own : Option Nat} {X : List UInt8} (h : Buf ob w own X) : ∀ k, own = some k → ob < k ∧ k < w.heap.size := by
 obtain ⟨v, hv, ho, rfl⟩ := h; intro k hk; have := ho.lt k hk; omega
theorem Wrote.below {ob : Nat} {own mz : Option Nat} {w w' : World} {X : List UInt8} (h : Wrote ob own mz w w') (hb : Buf ob w own X) : Below ob w w' := by
 have := hb.lt
 refine ⟨h.os, h.tape, h.output, h.size, fun k hk => h.block k (by omega) (by omega) ?_⟩
 intro e; have := (hb.own_gt k e.symm).1; omega
theorem Wrote.cell {ob : Nat} {own mz : Option Nat} {w w' : World} (h : Wrote ob own mz w w') {p : Addr} (hp : p.block < w.heap.size) (h1 : p.block ≠ ob) (h2 : some p.block ≠ own) : w'.cell? p = w.cell? p :=
 World.cell?_of_block (h.block p.block hp h1 h2)
theorem Buf.alloc {ob : Nat} {w : World} {own : Option Nat} {X : List UInt8} (h : Buf ob w own X) (o : Obj) : Buf ob (w.alloc o) own X := by
 have hl := h.lt
 obtain ⟨v, hv, ho, e⟩ := h
 exact ⟨v, (Below.heap_alloc w o ob hl).trans hv, ho.alloc o, e⟩
theorem Buf.new (w : World) : Buf w.heap.size (w.alloc (.cells #[.slice none 0 0] 54)) none [] :=
 ⟨.slice none 0 0, heap_alloc_new w _, World.ownsRow_nil _ _ _ _, rfl⟩
theorem Md : (Tryd.prog.info? 5).map (fun i => (i.zero, i.size, i.bytes)) = some (some (.int .u8 0), 1, 1) := by kernel_rfl
theorem ue (a b : List UInt8) : EN (a ++ b) = EN a ++ EN b := List.map_append
def vJ (ob : Nat) (X T : List UInt8) (own : Option Nat) (w : World) (e : Ending) (w' : World) : Prop :=
 e = .returned (.tuple #[]) ∧ ∃ mz, Buf ob w' mz (X ++ T) ∧ Wrote ob own mz w w'
theorem Buf.put {ob : Nat} {w w1 : World} {v v1 : Value} {n m : Nat} {X Y : List UInt8} (hv : w.heap[ob]? = some (.cells #[v] 54 (0, 0))) (ho : w.ownsRow (ob + 1) 5 1 v n (EN X))
  (h1 : w1.ownsRow (ob + 1) 5 1 v1 m (EN Y)) (hm : m = Y.length) (hg : w.grownBy w1 v.ownBlock) (hf : v1.ownBlock = v.ownBlock ∨ ∃ k, v1.ownBlock = some k ∧ w.heap.size ≤ k) :
  Buf ob (w1.setCell ⟨ob, 0, none⟩ v1) v1.ownBlock Y ∧ Wrote ob v.ownBlock v1.ownBlock w (w1.setCell ⟨ob, 0, none⟩ v1) := by
 subst hm
 have bm : ob < w.heap.size := (Array.getElem?_eq_some_iff.1 hv).1
 have fE : some ob ≠ v.ownBlock := by intro e; have := (ho.lt ob e.symm).1; omega
 have h2 : w1.heap[ob]? = some (.cells #[v] 54 (0, 0)) := (hg.block ob bm fE).trans hv
 refine ⟨⟨v1, ?_, ownsRow_setCell_below h1 (show ob < ob + 1 by omega) v1, rfl⟩, ⟨?_, ?_, ?_, ?_, ?_, hf⟩⟩
 ·exact (heap_setCell_same w1 ob 0 #[v] _ v1 h2).trans (by simp)
 ·simpa [World.setCell] using hg.os
 ·simpa [World.setCell] using hg.tape
 ·simpa [World.setCell] using hg.output
 ·simpa [World.setCell] using hg.size
 ·intro k hk h3 h4
  rw [Below.heap_setCell w1 ⟨ob, 0, none⟩ v1 k h3]
  exact hg.block k hk h4
theorem yw {P : Program} (w : World) (base : Nat) (t u ty e : TypeId) (i : TypeInfo) (ht : P.underlying t = some (.slice e)) (hu : P.underlying u = some .string) (hi : P.info? e = some i) (hz : i.zero = some (.int .u8 0))
  (lQ : i.size = 1) (yI : i.bytes = 1) (v : Value) (n : Nat) (xs : List Value) (bK : w.ownsRow base e 1 v n xs) (s : ByteArray) (hb : n + s.size ≤ 140737488355328) (nR : base ≤ w.heap.size) :
  ∃ v' w', (Builtin.append_ #[t, u] ty #[v, .string s]).run P w = .ok v' w' ∧ w'.ownsRow base e 1 v' (n + s.size) (xs ++ Lib.strCells s) ∧ w.grownBy w' v.ownBlock ∧ (v'.ownBlock = v.ownBlock ∨ ∃ k, v'.ownBlock = some k ∧ w.heap.size ≤ k) ∧
   ∃ a l c, v' = .slice a l c := by
 have KK : n + s.size ≤ maxLen := by unfold maxLen; omega
 have Cs : xs.length = n := by simpa using bK.1
 obtain ⟨v', w', hr, h2, h3, h4⟩ := Lib.run_append_own_string (P := P) w base t u ty e i ht hu hi hz lQ yI v n xs bK s KK hb nR
 have k_f7_0 := kk
 exact bf7
theorem ql {P : Program} (w : World) {ops : Array Oper} {rest : List Oper} {o : Oper} {a : Act} {Q : Exit → Act → World → Prop} (MA : o.guard = none) (sl x : Operand) (t u : TypeId)
  (ho : o.op = .call { callee := .builtin .append, args := #[sl, x], argTypes := #[t, u] })
  (base : Nat) (e : TypeId) (i : TypeInfo) (ht : P.underlying t = some (.slice e)) (hu : P.underlying u = some .string) (hi : P.info? e = some i) (hz : i.zero = some (.int .u8 0))
  (lQ : i.size = 1) (yI : i.bytes = 1)
  (v : Value) (n : Nat) (xs : List Value) (hs : a.eval sl = v) (bK : w.ownsRow base e 1 v n xs) (s : ByteArray) (hx : a.eval x = .string s)
  (uZ : n + s.size ≤ 140737488355328) (nR : base ≤ w.heap.size)
  (h : ∀ v' w', w'.ownsRow base e 1 v' (n + s.size) (xs ++ Lib.strCells s) → w.grownBy w' v.ownBlock → (v'.ownBlock = v.ownBlock ∨ ∃ k, v'.ownBlock = some k ∧ w.heap.size ≤ k) → Hid (∃ a l c, v' = .slice a l c) → wpList P ops Q rest (a.put o.dst v') w') : wpList P ops Q (o :: rest) a w := by
 refine wpList_plain MA fun K hK => ?_
 obtain ⟨v', w', hr, h2, h3, h4, h5⟩ := yw (P := P) w base t u o.type e i ht hu hi hz lQ yI v n xs bK s uZ nR
 exact bf1
theorem Ls (ob : Nat) (own : Option Nat) (X : List UInt8) (s : ByteArray) (w : World) (h : Buf ob w own X) (hb : X.length + s.size ≤ 1099511627776) :
  Calls Tryd.prog 22 #[.pointer (some ⟨ob, 0, none⟩), .string s] w (vJ ob X s.data.toList own w) := by
 have bm := h.lt
 obtain ⟨i0, hi, qm, hZ, hQ⟩ := info_parts Md
 obtain ⟨v, hv, ho, rfl⟩ := h
 have fE : some ob ≠ v.ownBlock := by intro e; have := (ho.lt ob e.symm).1; omega
 obtain ⟨a0, l0, c0, rfl⟩ : ∃ a l c, v = .slice a l c := by
  exact bf3
 have k0 : w.cell? ⟨ob, 0, none⟩ = some (.slice a0 l0 c0) := by simp [World.cell?, hv]
 have HV : Hid (w.heap[ob]? = some (.cells #[.slice a0 l0 c0] 54 (0, 0))) := hv
 have HO : Hid (w.ownsRow (ob + 1) 5 1 (.slice a0 l0 c0) X.length (EN X)) := ho
 clear hv ho
 go_enter Tryd.func22, Tryd.ntmps22
 go_wp2_with (at_builtin; refine ql _ rfl (.tmp 8) (.tmp 9) 22 9 rfl (ob + 1) 5 i0 Tryd.underlying22 Tryd.underlying9 hi qm hZ hQ _ X.length (EN X) rfl HO.out s rfl (by omega) (by omega) ?_)
 intro v1 w1 h1 hg hf zC
 obtain ⟨sa, sn, sc, rfl⟩ := zC.out
 have h2 : w1.heap[ob]? = some (.cells #[.slice a0 l0 c0] 54 (0, 0)) := (hg.block ob bm fE).trans HV.out
 have k1 : w1.cell? ⟨ob, 0, none⟩ = some (.slice a0 l0 c0) := by simp [World.cell?, h2]
 have f1 := frozen_of_row w1 ob 0 _ _ h2
 have H1 : Hid (w1.ownsRow (ob + 1) 5 1 (.slice sa sn sc) (X.length + s.size) (EN (X ++ s.data.toList))) := by rw [ue]; exact h1
 have HG : Hid (w.grownBy w1 (Value.slice a0 l0 c0).ownBlock) := hg
 have HF : Hid ((Value.slice sa sn sc).ownBlock = (Value.slice a0 l0 c0).ownBlock ∨ ∃ k, (Value.slice sa sn sc).ownBlock = some k ∧ w.heap.size ≤ k) := hf
 clear h1 hg hf h2
 go_wp2
 go_end0
 exact ⟨rfl, _, Buf.put HV.out HO.out H1.out (by rw [List.length_append, Array.length_toList]; rfl) HG.out HF.out⟩
theorem wi {P : Program} (w : World) (base : Nat) (t ty e : TypeId) (i : TypeInfo) (ht : P.underlying t = some (.slice e)) (hi : P.info? e = some i) (hz : i.zero = some (.int .u8 0))
  (lQ : i.size = 1) (yI : i.bytes = 1) (v : Value) (n : Nat) (xs : List Value) (bK : w.ownsRow base e 1 v n xs)
  (a : Addr) (m c : Nat) (news : List Value) (hl : news.length = m * 1) (nw : ∀ j u, news[j]? = some u → w.cell? (a.add j) = some u) (h1 : ∀ u ∈ news, u.oneCell' = true) (hb : n + m ≤ 140737488355328) (nR : base ≤ w.heap.size) :
  ∃ v' w', (Builtin.append_ #[t, t] ty #[v, .slice (some a) m c]).run P w = .ok v' w' ∧ w'.ownsRow base e 1 v' (n + m) (xs ++ news) ∧ w.grownBy w' v.ownBlock ∧ (v'.ownBlock = v.ownBlock ∨ ∃ k, v'.ownBlock = some k ∧ w.heap.size ≤ k) ∧
   ∃ a l c, v' = .slice a l c := by
 have KK : n + m ≤ maxLen := by unfold maxLen; omega
 have Cs : xs.length = n := by simpa using bK.1
 obtain ⟨v', w', hr, h2, h3, h4⟩ := run_append_own (P := P) w base t ty e i (.int .u8 0) 1 1 ht hi hz lQ yI rfl (by decide) v n xs bK a m c news hl nw h1 KK (by omega) nR
 have k_f7_1 := kk
 exact bf7
theorem px {P : Program} (w : World) {ops : Array Oper} {rest : List Oper} {o : Oper} {a : Act} {Q : Exit → Act → World → Prop} (MA : o.guard = none) (sl x : Operand) (t : TypeId)
  (ho : o.op = .call { callee := .builtin .append, args := #[sl, x], argTypes := #[t, t] })
  (base : Nat) (e : TypeId) (i : TypeInfo) (ht : P.underlying t = some (.slice e)) (hi : P.info? e = some i) (hz : i.zero = some (.int .u8 0))
  (lQ : i.size = 1) (yI : i.bytes = 1)
  (v : Value) (n : Nat) (xs : List Value) (hs : a.eval sl = v) (bK : w.ownsRow base e 1 v n xs)
  (ad : Addr) (m c : Nat) (news : List Value) (hx : a.eval x = .slice (some ad) m c) (hl : news.length = m * 1) (nw : ∀ j u, news[j]? = some u → w.cell? (ad.add j) = some u) (h1 : ∀ u ∈ news, u.oneCell' = true)
  (uZ : n + m ≤ 140737488355328) (nR : base ≤ w.heap.size)
  (h : ∀ v' w', w'.ownsRow base e 1 v' (n + m) (xs ++ news) → w.grownBy w' v.ownBlock → (v'.ownBlock = v.ownBlock ∨ ∃ k, v'.ownBlock = some k ∧ w.heap.size ≤ k) → Hid (∃ a l c, v' = .slice a l c) → wpList P ops Q rest (a.put o.dst v') w') : wpList P ops Q (o :: rest) a w := by
 refine wpList_plain MA fun K hK => ?_
 obtain ⟨v', w', hr, h2, h3, h4, h5⟩ := wi (P := P) w base t o.type e i ht hi hz lQ yI v n xs bK ad m c news hl nw h1 uZ nR
 exact bf1
theorem FL (ob : Nat) (own : Option Nat) (X : List UInt8) (d : Nat) (w : World) (h : Buf ob w own X) (hb : X.length + d ≤ 1099511627776) :
  Calls Tryd.prog 45 #[.pointer (some ⟨ob, 0, none⟩), .int .i64 d] w (vJ ob X (List.replicate d 9) own w) := by
 obtain ⟨i0, hi, qm, hZ, hQ⟩ := info_parts Md
 have H := (show Hid (Buf ob w own X) from h)
 clear h
 go_enter Tryd.func45, Tryd.ntmps45
 go_wp2
 go_loopw [1] (fun i wr => ∃ k : Nat, k ≤ d ∧ i = .int .i64 k ∧ ∃ mz, Buf ob wr mz (X ++ List.replicate (d - k) 9) ∧ Wrote ob own mz w wr) (fun i _ => (intOf i).toNat)
 case atStart => exact ⟨d, Nat.le_refl _, rfl, own, by simpa using H.out, Wrote.refl _ _ _⟩
 case round =>
  obtain ⟨k, hk, rfl, mz, Bu, EP⟩ := hrel
  by_cases zL : k = 0
  ·subst zL
   have rn : Hid (Buf ob wr mz (X ++ List.replicate d 9)) := Bu
   have HW : Hid (Wrote ob own mz w wr) := EP
   clear Bu EP
   go_wp2
   go_end0
   exact ⟨rfl, mz, rn.out, HW.out⟩
  ·have bm := Bu.lt
   have gH : 0 < k := by omega
   obtain ⟨v, hv, ho, rfl⟩ := Bu
   have fE : some ob ≠ v.ownBlock := by intro e; have := (ho.lt ob e.symm).1; omega
   have hYl : (X ++ List.replicate (d - k) 9).length + 1 ≤ 1099511627776 := by rw [List.length_append, List.length_replicate]; omega
   have hYs : (X ++ List.replicate (d - k) 9) ++ [9] = X ++ List.replicate (d - (k - 1)) 9 := by
    rw [List.append_assoc, show d - (k - 1) = (d - k) + 1 by omega, List.replicate_succ']
   generalize X ++ List.replicate (d - k) 9 = Y at *
   obtain ⟨a0, l0, c0, rfl⟩ : ∃ a l c, v = .slice a l c := by
    exact bf3
   have k0 : wr.cell? ⟨ob, 0, none⟩ = some (.slice a0 l0 c0) := by simp [World.cell?, hv]
   have HV : Hid (∀ o : Obj, (wr.alloc o).heap[ob]? = some (.cells #[.slice a0 l0 c0] 54 (0, 0))) := fun o => (Below.heap_alloc wr o ob bm).trans hv
   have HO : Hid (∀ o : Obj, (wr.alloc o).ownsRow (ob + 1) 5 1 (.slice a0 l0 c0) Y.length (EN Y)) := fun o => ho.alloc o
   have HW : Hid (Wrote ob own (Value.slice a0 l0 c0).ownBlock w wr) := EP
   have HE : Hid (Y ++ [9] = X ++ List.replicate (d - (k - 1)) 9) := hYs
   clear hv ho EP hYs
   go_wp2_with (at_builtin; refine px _ rfl (.tmp 12) (.tmp 13) 22 rfl (ob + 1) 5 i0 Tryd.underlying22 hi qm hZ hQ _ Y.length (EN Y) rfl (HO.out _) ⟨wr.heap.size, 0, none⟩ 1 1 [.int .u8 9] rfl rfl (by intro j u hj; rcases j with _ | j <;> simp_all [Addr.add]) (by intro u hu; simp at hu; subst hu; rfl) (by omega) (by simp; omega) ?_)
   intro v1 w1 h1 hg hf zC
   obtain ⟨sa, sn, sc, rfl⟩ := zC.out
   have h2 : w1.heap[ob]? = some (.cells #[.slice a0 l0 c0] 54 (0, 0)) := (hg.block ob (by simp; omega) fE).trans (HV.out _)
   have k1 : w1.cell? ⟨ob, 0, none⟩ = some (.slice a0 l0 c0) := by simp [World.cell?, h2]
   have f1 := frozen_of_row w1 ob 0 _ _ h2
   have hp := Buf.put (Y := Y ++ [9]) (HV.out _) (HO.out _) (by rw [ue]; exact h1) (by simp) hg (by simpa using hf)
   have HP : Hid (Buf ob (w1.setCell ⟨ob, 0, none⟩ (.slice sa sn sc)) (Value.slice sa sn sc).ownBlock (X ++ List.replicate (d - (k - 1)) 9) ∧ Wrote ob own (Value.slice sa sn sc).ownBlock w (w1.setCell ⟨ob, 0, none⟩ (.slice sa sn sc))) :=
    ⟨HE.out ▸ hp.1, HW.out.trans ((Wrote.alloc _ _ _ _).trans hp.2)⟩
   clear h1 hg hf h2 hp zC
   go_wp2
   exact ⟨⟨k - 1, by omega, by go_num, _, HP.out⟩, by simp [intOf]; omega⟩
def bI (d : Nat) : List UInt8 := List.replicate d 9
def fV (n : Int) : List UInt8 := if n = 1 then [105, 110, 116] else if n = 2 then [98, 111, 111, 108] else if n = 3 then [99, 104, 97, 110, 32, 105, 110, 116] else []
def zk (b : Bool) (t : List UInt8) : List UInt8 := if b then 40 :: (t ++ [41]) else t
structure Po where
 ex : Nat → List UInt8
 st : Nat → List UInt8
 sts : Nat → List UInt8
 cs : Nat → List UInt8
def prEx (k n : Int) (s : List UInt8) (len : Nat) (kk : Nat → Int) (kn : Nat → List UInt8) (p : Nat → Po) (lv : Nat) (level : Nat) : List UInt8 :=
 if k = 22 then gQ 20 n.toNat
 else if k = 23 then (if n = 0 then [102, 97, 108, 115, 101] else [116, 114, 117, 101])
 else if k = 24 then s
 else if k = 25 then s ++ 40 :: (aX (fun i => (if i = 0 then [] else [44, 32]) ++ (p i).ex 1) len ++ [41])
 else if k = 26 then [109, 97, 107, 101, 40, 99, 104, 97, 110, 32, 105, 110, 116] ++ ((if len = 0 then [] else [44, 32] ++ (p 0).ex 1) ++ [41])
 else if k = 27 then s ++ (if s = [45] ∧ kk 0 = 27 ∧ kn 0 = [45] then 40 :: ((p 0).ex 1 ++ [41]) else (p 0).ex 6)
 else if k = 29 then [60, 45] ++ (p 0).ex 6
 else if k = 28 then zk (decide (lv < level)) ((p 0).ex lv ++ (32 :: (s ++ 32 :: (p 1).ex (lv + 1))))
 else []
def aV (d : Nat) (inner : List UInt8) : List UInt8 := [123, 10] ++ (inner ++ (bI d ++ [125]))
def sY (w : List UInt8) (len : Nat) (p : Nat → Po) : List UInt8 := w ++ (if len = 0 then [] else (p 0).ex 1)
def prSt (k n : Int) (s : List UInt8) (len : Nat) (kk : Nat → Int) (p : Nat → Po) (d : Nat) : List UInt8 :=
 if k = 4 then aV d (aX (fun i => bI (d + 1) ++ ((p i).st (d + 1) ++ [10])) len)
 else if k = 5 then sY (s ++ [32, 58, 61, 32]) len p
 else if k = 6 then sY (s ++ [32, 61, 32]) len p
 else if k = 7 then s ++ (if n = 1 then [43, 43] else [45, 45])
 else if k = 8 then (p 0).ex 1 ++ ([32, 60, 45, 32] ++ (p 1).ex 1)
 else if k = 9 then (p 0).ex 1
 else if k = 10 then [105, 102, 32] ++ ((p 0).ex 1 ++ (32 :: (aV d ((p 1).sts (d + 1)) ++ (if len = 3 then [32, 101, 108, 115, 101, 32] ++ (p 2).st d else []))))
 else if k = 11 then [102, 111, 114, 32] ++ ((if len = 2 then (p 0).ex 1 ++ [32] else []) ++ aV d ((p (len - 1)).sts (d + 1)))
 else if k = 12 then (if len = 0 then [114, 101, 116, 117, 114, 110] else sY [114, 101, 116, 117, 114, 110, 32] len p)
 else if k = 13 then sY [103, 111, 32] len p
 else if k = 14 then sY [100, 101, 102, 101, 114, 32] len p
 else if k = 15 then [115, 101, 108, 101, 99, 116, 32, 123, 10] ++ (aX (fun i => (p i).cs d) len ++ (bI d ++ [125]))
 else if k = 17 then [98, 114, 101, 97, 107]
 else if k = 18 then [99, 111, 110, 116, 105, 110, 117, 101]
 else if k = 19 then sY [99, 108, 111, 115, 101, 40] len p ++ [41]
 else if k = 20 then sY [112, 114, 105, 110, 116, 40] len p ++ [41]
 else if k = 21 then sY [112, 97, 110, 105, 99, 40] len p ++ [41]
 else []
def cw (n : Int) (s : List UInt8) (p : Nat → Po) : List UInt8 :=
 if n = 0 then [100, 101, 102, 97, 117, 108, 116]
 else if n = 1 then [99, 97, 115, 101, 32] ++ ((if s = [] then [] else s ++ [32, 58, 61, 32]) ++ ([60, 45] ++ (p 0).ex 6))
 else [99, 97, 115, 101, 32] ++ ((p 0).ex 1 ++ ([32, 60, 45, 32] ++ (p 1).ex 1))
def aO : Nd → Po
  | .nil => ⟨fun _ => [], fun _ => [], fun _ => [], fun _ => []⟩
  | .mk k n s len kids =>
    ⟨prEx k n s.data.toList len (fun i => (kids i).kind) (fun i => (kids i).name.data.toList) (fun i => aO (kids i)) (lX s),
     prSt k n s.data.toList len (fun i => (kids i).kind) (fun i => aO (kids i)),
     fun d => aX (fun i => bI d ++ ((aO (kids i)).st d ++ [10])) len,
     fun d => bI d ++ (cw n s.data.toList (fun i => aO (kids i)) ++ ([58, 10] ++ (aO (kids (len - 1))).sts (d + 1)))⟩
theorem xX (T : Nd) (d : Nat) : (aO T).sts d = aX (fun i => bI d ++ ((aO (T.kids i)).st d ++ [10])) T.len := by cases T <;> rfl
def pH (T : Nd) : List UInt8 :=
  [102, 117, 110, 99, 32] ++ (T.name.data.toList ++ (40 :: (aX (fun i => (if i = 0 then [] else [44, 32]) ++ ((T.kids i).name.data.toList ++ 32 :: fV (T.kids i).num)) (T.len - 1) ++ ([41, 32] ++
    ((if T.num = 0 then [] else fV T.num ++ [32]) ++ (aV 0 ((aO (T.kids (T.len - 1))).sts 1) ++ [10]))))))
def ls (T : Nd) : List UInt8 := aX (fun i => (if i = 0 then [] else [10]) ++ pH (T.kids i)) T.len
def xW (T : Nd) : List UInt8 := if gg T then ls T else []
structure Pst (ob : Nat) (ah : Option Nat) (w0 : World) (Y : List UInt8) (w : World) : Prop where
 buf : ∃ own, Buf ob w own Y ∧ Wrote ob ah own w0 w
 below : Below ob w0 w
theorem Buf.calm {ob : Nat} {w w' : World} {own : Option Nat} {X : List UInt8} (h : Buf ob w own X) (hb : Below w.heap.size w w') : Buf ob w' own X := by
 have hl := h.lt
 obtain ⟨v, hv, ho, e⟩ := h
 refine ⟨v, (hb.block ob hl).trans hv, ⟨ho.1, ?_⟩, e⟩
 rcases ho.2 with h | ⟨g, cap, cur, h1, h2, h3, h4⟩
 ·exact .inl h
 ·exact .inr ⟨g, cap, cur, h1, h2, (hb.block g (Array.getElem?_eq_some_iff.1 h3).1).trans h3, h4⟩
theorem Wrote.calm {ob : Nat} {own mz : Option Nat} {w0 w w' : World} (h : Wrote ob own mz w0 w) (hb : Below w.heap.size w w') : Wrote ob own mz w0 w' := by
 have hs := h.size
 exact ⟨hb.os.trans h.os, hb.tape.trans h.tape, hb.output.trans h.output, Nat.le_trans h.size hb.size, fun k hk h1 h2 => (hb.block k (by omega)).trans (h.block k hk h1 h2), h.fresh⟩
theorem Pst.start {ob : Nat} {own : Option Nat} {w : World} {X : List UInt8} (h : Buf ob w own X) : Pst ob own w X w := ⟨⟨own, h, Wrote.refl _ _ _⟩, Below.refl _ _⟩
theorem Pst.lt {ob : Nat} {ah : Option Nat} {w0 w : World} {Y : List UInt8} (h : Pst ob ah w0 Y w) : ob < w.heap.size := by
 obtain ⟨own, hb, _⟩ := h.buf; exact hb.lt
theorem Pst.calm {ob : Nat} {ah : Option Nat} {w0 w w' : World} {Y : List UInt8} (h : Pst ob ah w0 Y w) (hb : Below w.heap.size w w') : Pst ob ah w0 Y w' := by
 have hl := h.lt
 obtain ⟨own, h1, h2⟩ := h.buf
 exact ⟨⟨own, h1.calm hb, h2.calm hb⟩, h.below.trans (hb.mono (by omega))⟩
theorem Pst.alloc {ob : Nat} {ah : Option Nat} {w0 w : World} {Y : List UInt8} (h : Pst ob ah w0 Y w) (o : Obj) : Pst ob ah w0 Y (w.alloc o) :=
 h.calm (bA)
theorem Pst.drew {ob : Nat} {ah : Option Nat} {w0 w : World} {Y : List UInt8} (h : Pst ob ah w0 Y w) : Pst ob ah w0 Y w.drew :=
 h.calm ⟨rfl, rfl, rfl, Nat.le_refl _, fun _ _ => rfl⟩
theorem Pst.lift {P : Program} {f : FuncId} {args : Array Value} {ob : Nat} {ah : Option Nat} {w0 w : World} {Y t : List UInt8} (h : Pst ob ah w0 Y w)
  (H : ∀ own, Buf ob w own Y → Calls P f args w (vJ ob Y t own w)) : Calls P f args w fun e w' => e = .returned (.tuple #[]) ∧ Pst ob ah w0 (Y ++ t) w' := by
 obtain ⟨own, h1, h2⟩ := h.buf
 refine (H own h1).mono ?_
 rintro e w' ⟨he, mz, h3, h4⟩
 exact ⟨he, ⟨mz, h3, h2.trans h4⟩, h.below.trans (h4.below h1)⟩
theorem Pst.add {ob : Nat} {ah : Option Nat} {w0 w : World} {Y : List UInt8} (h : Pst ob ah w0 Y w) (s : ByteArray) (hb : Y.length + s.data.toList.length ≤ 1099511627776) :
  Calls Tryd.prog 22 #[.pointer (some ⟨ob, 0, none⟩), .string s] w fun e w' => e = .returned (.tuple #[]) ∧ Pst ob ah w0 (Y ++ s.data.toList) w' :=
 h.lift fun own ai => Ls ob own Y s w ai (by simpa using hb)
theorem Pst.tabs {ob : Nat} {ah : Option Nat} {w0 w : World} {Y : List UInt8} (h : Pst ob ah w0 Y w) (d : Nat) (hb : Y.length + d ≤ 1099511627776) :
  Calls Tryd.prog 45 #[.pointer (some ⟨ob, 0, none⟩), .int .i64 d] w fun e w' => e = .returned (.tuple #[]) ∧ Pst ob ah w0 (Y ++ bI d) w' :=
 h.lift fun own ai => FL ob own Y d w ai hb
def yO (T : Nd) : Prop := ∀ (ob : Nat) (own : Option Nat) (X : List UInt8) (l : Nat) (w : World) (v : Value), Buf ob w own X → T.Fine → Row 0 ob w T v → T.eOk = true → l ≤ 6 →
 X.length + ((aO T).ex l).length ≤ 1099511627776 → Calls Tryd.prog 81 #[.pointer (some ⟨ob, 0, none⟩), T.val v, .int .i64 l] w (vJ ob X ((aO T).ex l) own w)
def vP (T : Nd) : Prop := ∀ (ob : Nat) (own : Option Nat) (X : List UInt8) (d : Nat) (w : World) (v : Value), Buf ob w own X → T.Fine → Row 0 ob w T v → T.sOk = true →
 X.length + ((aO T).st d).length ≤ 1099511627776 → Calls Tryd.prog 65 #[.pointer (some ⟨ob, 0, none⟩), T.val v, .int .i64 d] w (vJ ob X ((aO T).st d) own w)
theorem Pst.expr {T : Nd} (hT : yO T) {ob : Nat} {ah : Option Nat} {w0 w : World} {Y : List UInt8} (h : Pst ob ah w0 Y w) (l : Nat) (v : Value) (hf : T.Fine) (hr : Row 0 ob w0 T v) (ax : T.eOk = true) (hl : l ≤ 6) (hb : Y.length + ((aO T).ex l).length ≤ 1099511627776) :
  Calls Tryd.prog 81 #[.pointer (some ⟨ob, 0, none⟩), T.val v, .int .i64 l] w fun e w' => e = .returned (.tuple #[]) ∧ Pst ob ah w0 (Y ++ (aO T).ex l) w' :=
 h.lift fun own ai => hT ob own Y l w v ai hf (ae h.below lr hr) ax hl hb
theorem Pst.stmt {T : Nd} (hT : vP T) {ob : Nat} {ah : Option Nat} {w0 w : World} {Y : List UInt8} (h : Pst ob ah w0 Y w) (d : Nat) (v : Value) (hf : T.Fine) (hr : Row 0 ob w0 T v) (ax : T.sOk = true) (hb : Y.length + ((aO T).st d).length ≤ 1099511627776) :
  Calls Tryd.prog 65 #[.pointer (some ⟨ob, 0, none⟩), T.val v, .int .i64 d] w fun e w' => e = .returned (.tuple #[]) ∧ Pst ob ah w0 (Y ++ (aO T).st d) w' :=
 h.lift fun own ai => hT ob own Y d w v ai hf (ae h.below lr hr) ax hb
theorem nt {T : Nd} {ob : Nat} {w0 : World} {v : Value} (hr : Row 0 ob w0 T v) (h0 : T.len ≠ 0) : ∃ g off cap, v = .slice (some ⟨g, off, none⟩) T.len cap ∧ g < ob ∧ (T.len ≤ cap ∧ cap ≤ 9223372036854775807) ∧ ∀ i, i < T.len →
    ∃ u, (∀ W, Below ob w0 W → W.cell? ⟨g, off + i * 4, none⟩ = some (.int .i64 (T.kids i).kind) ∧ W.cell? ⟨g, off + i * 4 + 1, none⟩ = some (.int .i64 (T.kids i).num) ∧
        W.cell? ⟨g, off + i * 4 + 2, none⟩ = some (.string (T.kids i).name) ∧ W.cell? ⟨g, off + i * 4 + 3, none⟩ = some u) ∧ Row 0 ob w0 (T.kids i) u := by
  obtain ⟨a, cap, rfl, hc, h⟩ := ar.1 hr
  rcases h with h | ⟨g, off, rfl, _, h2, h3⟩
  · exact absurd h h0
  refine ⟨g, off, cap, rfl, h2, hc, fun i hi => ?_⟩
  obtain ⟨u, e0, e1, e2, e3, hr⟩ := h3 i hi
  refine ⟨u, fun W hb => ?_, hr⟩
  have hc : ∀ o, W.cell? ⟨g, o, none⟩ = w0.cell? ⟨g, o, none⟩ := fun o => hb.cell (p := ⟨g, o, none⟩) h2
  exact ⟨(hc _).trans e0, (hc _).trans e1, (hc _).trans e2, (hc _).trans e3⟩
theorem Pst.startB {ob : Nat} {own : Option Nat} {w : World} {X : List UInt8} (h : Buf ob w own X) (o : Obj) : Pst ob own (w.alloc o) X (w.alloc o) := Pst.start (h.alloc o)
theorem Pst.box {ob : Nat} {own : Option Nat} {w W : World} {X Y : List UInt8} {o : Obj} (h0 : Buf ob w own X) (h : Pst ob own (w.alloc o) Y W) : W.heap[w.heap.size]? = some o := by
 obtain ⟨mz, hb, hw⟩ := h.buf
 have hl := h0.lt
 rw [hw.block w.heap.size (by simp) (by omega) (by intro e; have := (h0.own_gt _ e.symm).2; omega)]
 exact heap_alloc_new w o
theorem Pst.node {ob : Nat} {own : Option Nat} {w : World} {X : List UInt8} (h0 : Buf ob w own X) (a b c d : Value) (t : TypeId) : ∀ Y W, Pst ob own (w.alloc (.cells #[a, b, c, d] t)) Y W →
  W.cell? ⟨w.heap.size, 0, none⟩ = some a ∧ W.cell? ⟨w.heap.size, 1, none⟩ = some b ∧ W.cell? ⟨w.heap.size, 2, none⟩ = some c ∧ W.cell? ⟨w.heap.size, 3, none⟩ = some d := by
 intro Y W h
 have e := h.box h0
 refine ⟨?_, ?_, ?_, ?_⟩ <;> simp [World.cell?, e]
theorem Pst.addsB {ob : Nat} {own : Option Nat} {w W : World} {X Y T : List UInt8} {o : Obj} (h : Pst ob own (w.alloc o) Y W) (e : Y = X ++ T) : vJ ob X T own w (.returned (.tuple #[])) W := by
 obtain ⟨mz, h1, h2⟩ := h.buf
 exact ⟨rfl, mz, e ▸ h1, (Wrote.alloc ob own w o).trans h2⟩
theorem Pst.belowB {ob : Nat} {own : Option Nat} {w W : World} {X Y : List UInt8} {o : Obj} (h0 : Buf ob w own X) (h : Pst ob own (w.alloc o) Y W) : Below ob w W := by
 have hl := h0.lt
 exact ((Below.refl ob w).alloc (by omega) o).trans h.below
theorem aK {ob : Nat} {own : Option Nat} {w : World} {X : List UInt8} (h0 : Buf ob w own X) {T : Nd} {v : Value} (h : Row 0 ob w T v) (o : Obj) : Row 0 ob (w.alloc o) T v := by
 have hl := h0.lt
 exact ae (bA) (by omega) h
theorem Ic (f : Nat → List UInt8) {a b : Nat} (h : a ≤ b) : (aX f a).length ≤ (aX f b).length := by
 induction h with
 |refl => exact Nat.le_refl _
 |step _ ih => simp only [aX, List.length_append]; omega
theorem pO (f : Nat → List UInt8) {a b : Nat} (h : a < b) : (aX f a).length + (f a).length ≤ (aX f b).length := by
 have := Ic f (show a + 1 ≤ b from h)
 simpa only [aX, List.length_append] using this
theorem rb (T : Nd) (hk : T.kind = 24) (l : Nat) : (aO T).ex l = T.name.data.toList := by
 cases T with
 |nil => simp [Nd.kind] at hk
 |mk k n s len kids => obtain rfl : k = 24 := hk; rfl
theorem ra (T : Nd) (hk : T.kind = 25) (l : Nat) : (aO T).ex l = T.name.data.toList ++ 40 :: (aX (fun i => (if i = 0 then [] else [44, 32]) ++ (aO (T.kids i)).ex 1) T.len ++ [41]) := by
 cases T with
 |nil => simp [Nd.kind] at hk
 |mk k n s len kids => obtain rfl : k = 25 := hk; rfl
theorem oV (T : Nd) (hk : T.kind = 26) (l : Nat) : (aO T).ex l = [109, 97, 107, 101, 40, 99, 104, 97, 110, 32, 105, 110, 116] ++ ((if T.len = 0 then [] else [44, 32] ++ (aO (T.kids 0)).ex 1) ++ [41]) := by
 cases T with
 |nil => simp [Nd.kind] at hk
 |mk k n s len kids => obtain rfl : k = 26 := hk; rfl
theorem vp {T : Nd} (hk : T.kind = 25) (h : T.eOk = true) : ∀ i, i < T.len → (T.kids i).eOk = true := by
 rw [b8, hk] at h
 simp [cq] at h
 exact bD.1 h.2.2
theorem rN {T : Nd} (hk : T.kind = 26) (h : T.eOk = true) : T.len < 2 ∧ ∀ i, i < T.len → (T.kids i).eOk = true := by
 rw [b8, hk] at h
 simp [cq] at h
 exact ⟨h.2.1, bD.1 h.2.2⟩
theorem Tq (T : Nd) (hk : T.kind = 24) : yO T := by
 intro ob own X l w v ai hf hr ax hl hb
 obtain ⟨a, cap, rfl, _⟩ := ar.1 hr
 rw [rb T hk] at hb ⊢
 have HB := aa hb
 unfold Nd.val
 rw [hk]
 have HP := aa (Pst.startB ai (.cells #[.int .i64 24, .int .i64 T.num, .string T.name, .slice a T.len cap] 27))
 clear hb hr hf ax ai hk
 generalize T.name = ts at *
 generalize T.num = tn at *
 go_enter Tryd.func81, Tryd.ntmps81
 go_wp2_with (go_at_call 22; refine (HP.out.add _ HB.out).mono ?_; rintro e w1 ⟨rfl, hp⟩; have HP := aa hp; clear hp)
 go_end0
 exact HP.out.addsB rfl
theorem Tp (T : Nd) (hk : T.kind = 25) (ih : ∀ i, i < T.len → yO (T.kids i)) : yO T := by
 intro ob own X l w v ai hf hr ax hl hb
 have hn := T.fine_len hf
 obtain ⟨a, cap, rfl, bQ, _⟩ := ar.1 hr
 rw [ra T hk] at hb ⊢
 have HE := aa (vp hk ax)
 unfold Nd.val
 rw [hk]
 have HP := aa (Pst.startB ai (.cells #[.int .i64 25, .int .i64 T.num, .string T.name, .slice a T.len cap] 27))
 have HN := aa (Pst.node ai (.int .i64 25) (.int .i64 T.num) (.string T.name) (.slice a T.len cap) 27)
 have HR := aa (aK ai hr (.cells #[.int .i64 25, .int .i64 T.num, .string T.name, .slice a T.len cap] 27))
 have HI := aa ih
 have HF := aa hf
 have hs : T.name.size ≤ 1099511627776 := by
  have e : T.name.data.toList.length = T.name.size := rfl
  simp only [List.length_append] at hb; omega
 have HB : Hid (X.length + (T.name.size + (1 + ((aX (fun i => (if i = 0 then [] else [44, 32]) ++ (aO (T.kids i)).ex 1) T.len).length + 1))) ≤ 1099511627776) := by
  have e : T.name.data.toList.length = T.name.size := rfl
  unfold Hid; simp only [List.length_append, List.length_cons, List.length_nil] at hb; omega
 clear hb hr hf ax ai hk ih bQ
 generalize hF : (fun i => (if i = 0 then [] else [44, 32]) ++ (aO (T.kids i)).ex 1) = F at *
 have EK := aa hF
 have PH := aa (fun i (h : i < T.len) => pO F h)
 clear hF
 generalize T.name = ts at *
 generalize T.num = tn at *
 go_enter Tryd.func81, Tryd.ntmps81
 go_wp2_with (go_at_call 22; refine (HP.out.add _ (by have := HB.out; simp; omega)).mono ?_; rintro e w1 ⟨rfl, hp⟩; obtain ⟨b0, b1, b2, b3⟩ := HN.out _ _ hp; have HP := aa hp; clear hp)
 go_loopw [6] (fun i wr => ∃ j : Nat, j ≤ T.len ∧ i = .int .i64 j ∧ Hid (Pst ob own (w.alloc (.cells #[.int .i64 25, .int .i64 tn, .string ts, .slice a T.len cap] 27)) (X ++ (ts ++ ⟨#[40]⟩ : ByteArray).data.toList ++ aX F j) wr)) (fun i _ => T.len - (intOf i).toNat)
 case atStart => exact ⟨0, by omega, rfl, aa (by simpa [aX] using HP.out)⟩
 case round =>
  obtain ⟨j, hj, rfl, HP⟩ := hrel
  obtain ⟨b0, b1, b2, b3⟩ := HN.out _ _ HP.out
  by_cases bm : j < T.len
  ·obtain ⟨g, off, ph, hv, hg, bQ, hk⟩ := nt HR.out (by omega)
   obtain ⟨rfl, rfl⟩ : a = some ⟨g, off, none⟩ ∧ cap = ph := by injection hv with e1 e2 e3; exact ⟨e1, e3⟩
   obtain ⟨u, hc, Eh⟩ := hk j bm
   obtain ⟨c0, c1, c2, c3⟩ := hc _ HP.out.below
   have HC := aa hc
   have Qo := aa Eh
   have sf := PH.out j bm
   have Qu := aa (HI.out j bm)
   have vR := aa (Nd.fine_kid HF.out bm)
   have HEJ := aa (HE.out j bm)
   have tC : Hid (F j = (if j = 0 then [] else [44, 32]) ++ (aO (T.kids j)).ex 1) := by rw [← EK.out]; rfl
   have zQ : (aX F j).length + ((if j = 0 then [] else [44, 32] : List UInt8).length + ((aO (T.kids j)).ex 1).length) ≤ (aX F T.len).length := by rw [tC.out, List.length_append] at sf; exact sf
   clear hk hc Eh sf hv bQ
   generalize T.kids j = K at *
   have HX : Hid (aX F (j + 1) = aX F j ++ ((if j = 0 then [] else [44, 32]) ++ (aO K).ex 1)) := by unfold Hid; rw [← tC.out]; rfl
   by_cases hj0 : 0 < j
   ·have P7 : j ≠ 0 := by omega
    go_wp2_with (first
     |(go_at_call 22; refine (HP.out.add _ (by have := HB.out; simp [P7] at zQ ⊢; omega)).mono ?_; rintro e w2 ⟨rfl, hp⟩; obtain ⟨b0, b1, b2, b3⟩ := HN.out _ _ hp; obtain ⟨c0, c1, c2, c3⟩ := HC.out _ hp.below; have HP := aa hp; clear hp)
     |(go_at_call 81; refine (HP.out.expr Qu.out 1 u vR.out Qo.out HEJ.out (by decide) (by have := HB.out; simp [P7] at zQ ⊢; omega)).mono ?_; rintro e w2 ⟨rfl, hp⟩; obtain ⟨b0, b1, b2, b3⟩ := HN.out _ _ hp; have HP := aa hp; clear hp))
    exact ⟨⟨j + 1, by omega, by go_num, aa (by rw [HX.out, if_neg P7]; simpa using HP.out)⟩, by simp [intOf]; omega⟩
   ·obtain rfl : j = 0 := by omega
    simp only [Nat.zero_mul, Nat.add_zero] at c0 c1 c2 c3
    go_wp2_with (first
     |(go_at_call 81; refine (HP.out.expr Qu.out 1 u vR.out Qo.out HEJ.out (by decide) (by have := HB.out; simp at zQ ⊢; omega)).mono ?_; rintro e w2 ⟨rfl, hp⟩; obtain ⟨b0, b1, b2, b3⟩ := HN.out _ _ hp; have HP := aa hp; clear hp))
    exact ⟨⟨1, by omega, by go_num, aa (by rw [HX.out]; simpa using HP.out)⟩, by simp [intOf]; omega⟩
  ·obtain rfl : j = T.len := by omega
   go_wp2_with (first
    |(go_at_call 22; refine (HP.out.add _ (by have := HB.out; simp; omega)).mono ?_; rintro e w2 ⟨rfl, hp⟩; have HP := aa hp; clear hp))
   go_end0
   exact HP.out.addsB (by simp)
theorem rh (T : Nd) (hk : T.kind = 22) (l : Nat) : (aO T).ex l = gQ 20 T.num.toNat := by
 cases T with
 |nil => simp [Nd.kind] at hk
 |mk k n s len kids => obtain rfl : k = 22 := hk; rfl
theorem re (T : Nd) (hk : T.kind = 23) (l : Nat) : (aO T).ex l = (if T.num = 0 then [102, 97, 108, 115, 101] else [116, 114, 117, 101]) := by
 cases T with
 |nil => simp [Nd.kind] at hk
 |mk k n s len kids => obtain rfl : k = 23 := hk; rfl
theorem q9 (T : Nd) (hk : T.kind = 27) (l : Nat) : (aO T).ex l = T.name.data.toList ++ (if T.name.data.toList = [45] ∧ (T.kids 0).kind = 27 ∧ (T.kids 0).name.data.toList = [45] then 40 :: ((aO (T.kids 0)).ex 1 ++ [41]) else (aO (T.kids 0)).ex 6) := by
 cases T with
 |nil => simp [Nd.kind] at hk
 |mk k n s len kids => obtain rfl : k = 27 := hk; rfl
theorem q6 (T : Nd) (hk : T.kind = 29) (l : Nat) : (aO T).ex l = [60, 45] ++ (aO (T.kids 0)).ex 6 := by
 cases T with
 |nil => simp [Nd.kind] at hk
 |mk k n s len kids => obtain rfl : k = 29 := hk; rfl
theorem q8 (T : Nd) (hk : T.kind = 28) (l : Nat) : (aO T).ex l = zk (decide (lX T.name < l)) ((aO (T.kids 0)).ex (lX T.name) ++ (32 :: (T.name.data.toList ++ 32 :: (aO (T.kids 1)).ex (lX T.name + 1)))) := by
 cases T with
 |nil => simp [Nd.kind] at hk
 |mk k n s len kids => obtain rfl : k = 28 := hk; rfl
theorem pE {e st : Nat → Bool} {kk : Nat → Int} {len : Nat} (h : aE e st kk len ⟨#[101]⟩ = true) : len = 1 ∧ e 0 = true := by
 unfold aE at h
 simp only [Bool.and_eq_true, decide_eq_true_eq] at h
 refine ⟨h.1, ?_⟩
 have := bD.1 h.2 0 (by decide)
 exact this
theorem LZ {e st : Nat → Bool} {kk : Nat → Int} {len : Nat} (h : aE e st kk len ⟨#[101, 101]⟩ = true) : len = 2 ∧ e 0 = true ∧ e 1 = true := by
 unfold aE at h
 simp only [Bool.and_eq_true, decide_eq_true_eq] at h
 exact ⟨h.1, bD.1 h.2 0 (by decide), bD.1 h.2 1 (by decide)⟩
theorem Hx {T : Nd} (hk : T.kind = 22) (h : T.eOk = true) : 0 ≤ T.num ∧ T.num ≤ 999999999999999999 := by
 rw [b8, hk] at h
 simp [cq] at h
 omega
theorem Hw {T : Nd} (hk : T.kind = 23) (h : T.eOk = true) : T.num = 0 ∨ T.num = 1 := by
 rw [b8, hk] at h
 simp [cq] at h
 exact h.2.1
theorem vo {T : Nd} (hk : T.kind = 27) (h : T.eOk = true) : T.len = 1 ∧ (T.kids 0).eOk = true := by
 rw [b8, hk] at h
 simp [cq] at h
 exact pE h.2.2
theorem vk {T : Nd} (hk : T.kind = 29) (h : T.eOk = true) : T.len = 1 ∧ (T.kids 0).eOk = true := by
 rw [b8, hk] at h
 simp [cq] at h
 exact pE h.2
theorem vn {T : Nd} (hk : T.kind = 28) (h : T.eOk = true) : 0 < lX T.name ∧ T.len = 2 ∧ (T.kids 0).eOk = true ∧ (T.kids 1).eOk = true := by
 rw [b8, hk] at h
 simp [cq] at h
 exact ⟨h.2.1, LZ h.2.2⟩
theorem NY (s : ByteArray) : lX s ≤ 5 := by
 unfold lX
 repeat' split
 all_goals omega
theorem Tt (T : Nd) (hk : T.kind = 22) : yO T := by
 intro ob own X l w v ai hf hr ax hl hb
 have hn := T.fine_len hf
 rw [rh T hk] at hb ⊢
 obtain ⟨h0, AD⟩ := Hx hk ax
 obtain ⟨m, hm⟩ : ∃ m : Nat, T.num = (m : Int) := ⟨T.num.toNat, by omega⟩
 rw [hm] at hb ⊢
 have hm18 : m ≤ 999999999999999999 := by omega
 obtain ⟨a, cap, rfl, _⟩ := ar.1 hr
 unfold Nd.val
 rw [hk, hm]
 have HP := aa (Pst.startB ai (.cells #[.int .i64 22, .int .i64 (m : Int), .string T.name, .slice a T.len cap] 27))
 have HN := aa (Pst.node ai (.int .i64 22) (.int .i64 (m : Int)) (.string T.name) (.slice a T.len cap) 27)
 have HB := aa hb
 clear hb hr hf ax ai hk
 have HD := aa (fun W : World => yr m W hm18)
 clear h0 AD hm
 simp only [Int.toNat_natCast] at HB ⊢
 generalize T.name = ts at *
 generalize gQ 20 m = dg at *
 go_enter Tryd.func81, Tryd.ntmps81
 go_wp2_with (first
  |(go_at_call 33; refine (HD.out _).mono ?_; rintro e w2 ⟨rfl, hb⟩; have hp := HP.out.calm hb; have HP := aa hp; clear hp hb)
  |(go_at_call 22; refine (HP.out.add _ HB.out).mono ?_; rintro e w2 ⟨rfl, hp⟩; have HP := aa hp; clear hp))
 go_end0
 exact HP.out.addsB rfl
theorem Tr (T : Nd) (hk : T.kind = 23) : yO T := by
 intro ob own X l w v ai hf hr ax hl hb
 have hn := T.fine_len hf
 rw [re T hk] at hb ⊢
 have hb2 := Hw hk ax
 obtain ⟨a, cap, rfl, _⟩ := ar.1 hr
 unfold Nd.val
 rw [hk]
 have HP := aa (Pst.startB ai (.cells #[.int .i64 23, .int .i64 T.num, .string T.name, .slice a T.len cap] 27))
 have HN := aa (Pst.node ai (.int .i64 23) (.int .i64 T.num) (.string T.name) (.slice a T.len cap) 27)
 have HB := aa hb
 clear hb hr hf ax ai hk
 generalize T.name = ts at *
 generalize T.num = tn at *
 rcases hb2 with rfl | rfl
 all_goals simp only [if_true, Int.reduceEq, if_false] at HB ⊢
 all_goals go_enter Tryd.func81, Tryd.ntmps81
 all_goals go_wp2_with (first
  |(go_at_call 22; refine ((HP.out.alloc _).add _ HB.out).mono ?_; rintro e w2 ⟨rfl, hp⟩; have HP := aa hp; clear hp))
 all_goals go_end0
 all_goals exact HP.out.addsB rfl
theorem Tm (T : Nd) (hk : T.kind = 29) (ih : ∀ i, i < T.len → yO (T.kids i)) : yO T := by
 intro ob own X l w v ai hf hr ax hl hb
 have hn := T.fine_len hf
 rw [q6 T hk] at hb ⊢
 obtain ⟨hlen, si⟩ := vk hk ax
 have k_f5_0 := kk
 exact bf5
theorem To (T : Nd) (hk : T.kind = 27) (ih : ∀ i, i < T.len → yO (T.kids i)) : yO T := by
 intro ob own X l w v ai hf hr ax hl hb
 have hn := T.fine_len hf
 rw [q9 T hk] at hb ⊢
 obtain ⟨hlen, si⟩ := vo hk ax
 have k_f5_1 := kk
 exact bf5
theorem Tn (T : Nd) (hk : T.kind = 28) (ih : ∀ i, i < T.len → yO (T.kids i)) : yO T := by
 intro ob own X l w v ai hf hr ax hl hb
 have hn := T.fine_len hf
 rw [q8 T hk] at hb ⊢
 obtain ⟨I0, hlen, si, KJ⟩ := vn hk ax
 have hlv5 := NY T.name
 have tE := aa si
 have Ar := aa KJ
 have k_f6_1 := kk
 exact bf6
theorem OF (T : Nd) (hk : T.kind = 26) (h0 : T.len = 0) : yO T := by
 intro ob own X l w v ai hf hr ax hl hb
 have hn := T.fine_len hf
 rw [oV T hk] at hb ⊢
 obtain ⟨_, hE⟩ := rN hk ax
 rw [if_pos h0] at hb ⊢
 obtain ⟨a, cap, rfl, _⟩ := ar.1 hr
 unfold Nd.val
 rw [hk, h0]
 have HP := aa (Pst.startB ai (.cells #[.int .i64 26, .int .i64 T.num, .string T.name, .slice a 0 cap] 27))
 have HN := aa (Pst.node ai (.int .i64 26) (.int .i64 T.num) (.string T.name) (.slice a 0 cap) 27)
 have HB := aa hb
 clear hE hb hr hf ax ai hk
 generalize T.name = ts at *
 generalize T.num = tn at *
 go_enter Tryd.func81, Tryd.ntmps81
 go_wp2_with (first
  |(go_at_call 22; refine (HP.out.add _ (by have := HB.out; simp at this ⊢; omega)).mono ?_; rintro e w2 ⟨rfl, hp⟩; obtain ⟨b0, b1, b2, b3⟩ := HN.out _ _ hp; have HP := aa hp; clear hp))
 go_end0
 exact HP.out.addsB (by simp)
theorem OE (T : Nd) (hk : T.kind = 26) (h0 : ¬ T.len = 0) (ih : ∀ i, i < T.len → yO (T.kids i)) : yO T := by
 intro ob own X l w v ai hf hr ax hl hb
 have hn := T.fine_len hf
 rw [oV T hk] at hb ⊢
 obtain ⟨hl2, hE⟩ := rN hk ax
 have hlen : T.len = 1 := by omega
 rw [if_neg h0] at hb ⊢
 have tE := aa (hE 0 (by omega))
 have k_f6_0 := kk
 exact bf6
theorem lC (T : Nd) : yO T := by
 have step : ∀ T : Nd, (∀ i, i < T.len → yO (T.kids i)) → yO T := by
  intro T ih
  by_cases Bx : T.kind = 22
  ·exact Tt T Bx
  by_cases ym : T.kind = 23
  ·exact Tr T ym
  by_cases AA : T.kind = 24
  ·exact Tq T AA
  by_cases yl : T.kind = 25
  ·exact Tp T yl ih
  by_cases xn : T.kind = 26
  ·by_cases h0 : T.len = 0
   ·exact OF T xn h0
   ·exact OE T xn h0 ih
  by_cases yK : T.kind = 27
  ·exact To T yK ih
  by_cases Az : T.kind = 28
  ·exact Tn T Az ih
  by_cases zZ : T.kind = 29
  ·exact Tm T zZ ih
  intro ob own X l w v _ _ _ ax
  rw [b8] at ax
  simp [cq, Bx, ym, AA, yl, xn, yK, Az, zZ] at ax
 induction T with
 |nil => exact step .nil fun i hi => absurd hi (Nat.not_lt_zero _)
 |mk k n s len kids ih => exact step _ fun i _ => ih i
end Go.Proofs.YtkfbbdhidecefaaDoor
