/- The program's printer: its text on the way. -/
import Derived.Test.YtacamenjijlemaaGreatDoorPmPrF
import Derived.Test.YtacamenjijlemaaGreatDoorShelf
import Derived.Lib.Builder
import Derived.Lib.UnsafeStr
import Derived.Laws.Externs
import Derived.WalkSpells
import Derived.WalkSmall
import Derived.Deep.RegionWith
import Derived.Test.YtacamenjijlemaaGreatDoorPmImA
import Derived.Deep.RegionHeld3
import Derived.StillTailTactics
set_option linter.unusedVariables false
namespace Go.Proofs.YtacamenjijlemaaGreatDoor
open Go.RowKit

/-- The text Y lies behind the pointer to block pb, so deep, a line begun or not; 'own' is the block of its bytes. -/
def IBuf (pb : Nat) (w : World) (own : Option Nat) (d : Int) (b : Bool) (Y : List UInt8) : Prop :=
  ∃ q v, w.heap[pb]? = some (.cells #[q, v, .int .i64 d, .bool b] 45 (0, 0)) ∧ (q = .pointer none ∨ q = .pointer (some ⟨pb, 0, none⟩)) ∧ w.ownsRow (pb + 1) 5 1 v Y.length (u8s Y) ∧ v.ownBlock = own

theorem bsize : (Tryz.prog.info? 41).map (·.size) = some 2 := by kernel_rfl
theorem blies : liesAt Tryz.prog Tryz.prog.depth 45 (4 / Tryz.prog.cellsOf 45) 0 41 1 = true := by kernel_rfl

set_option maxHeartbeats 1000000 in
set_option maxRecDepth 100000 in
theorem copy_self (pb : Nat) (w : World) (h : w.cell? ⟨pb, 0, none⟩ = some (.pointer (some ⟨pb, 0, none⟩))) :
    Calls Tryz.prog 51 #[.pointer (some ⟨pb, 0, none⟩)] w fun e w' => e = .returned (.tuple #[]) ∧ w' = w := by
  obtain ⟨j, hj, _⟩ := Option.map_eq_some_iff.1 bsize
  go_enter Tryz.func51, Tryz.ntmps51
  go_wp2
  rw [Lib.run_neq_ptr_same w _ Tryz.underlying38 hj]
  go_wp2
  go_end0
  exact ⟨rfl, rfl⟩

set_option maxHeartbeats 1000000 in
set_option maxRecDepth 100000 in
theorem copy_nil (pb : Nat) (w : World) (h : w.cell? ⟨pb, 0, none⟩ = some (.pointer none)) (hsh : w.shape? pb = some (45, 4)) (hf : w.frozen? ⟨pb, 0, none⟩ = false) :
    Calls Tryz.prog 51 #[.pointer (some ⟨pb, 0, none⟩)] w fun e w' => e = .returned (.tuple #[]) ∧ w' = w.setCell ⟨pb, 0, none⟩ (.pointer (some ⟨pb, 0, none⟩)) := by
  obtain ⟨j, hj, hjs⟩ := Option.map_eq_some_iff.1 bsize
  go_enter Tryz.func51, Tryz.ntmps51
  go_wp2
  rw [Lib.run_to_unsafe w ⟨pb, 0, none⟩ Tryz.underlying38 Tryz.underlying91 hj (by rw [hjs]; decide) hsh (show 0 < 4 by decide)]
  simp only [Result.andThen]
  rw [Oper.upon_value]
  go_wp2
  rw [run_callFunc_extern Tryz.func67 (by kernel_rfl) (by kernel_rfl) (by kernel_rfl) (e := Extern.AbiNoEscape.same) (by kernel_rfl)]
  rw [Lib.run_noEscape]
  simp only [Result.andThen]
  rw [Oper.upon_value]
  go_wp2
  rw [Lib.run_from_unsafe w ⟨pb, 0, none⟩ Tryz.underlying91 Tryz.underlying38 hj hsh blies]
  simp only [Result.andThen]
  rw [Oper.upon_value]
  go_wp2
  go_end0
  exact ⟨rfl, rfl⟩
theorem IBuf.lt {pb : Nat} {w : World} {own : Option Nat} {d : Int} {b : Bool} {Y : List UInt8} (h : IBuf pb w own d b Y) : pb < w.heap.size := by
  obtain ⟨q, v, hv, _⟩ := h; exact (Array.getElem?_eq_some_iff.1 hv).1
theorem IBuf.own_gt {pb : Nat} {w : World} {own : Option Nat} {d : Int} {b : Bool} {Y : List UInt8} (h : IBuf pb w own d b Y) : ∀ k, own = some k → pb < k ∧ k < w.heap.size := by
  obtain ⟨q, v, hv, _, ho, rfl⟩ := h; intro k hk; have := ho.lt k hk; omega
theorem IBuf.calm {pb : Nat} {w w' : World} {own : Option Nat} {d : Int} {b : Bool} {Y : List UInt8} (h : IBuf pb w own d b Y) (hb : Below w.heap.size w w') : IBuf pb w' own d b Y := by
  have hl := h.lt
  obtain ⟨q, v, hv, hq, ho, e⟩ := h
  refine ⟨q, v, (hb.block pb hl).trans hv, hq, ⟨ho.1, ?_⟩, e⟩
  rcases ho.2 with h | ⟨g, cap, cur, h1, h2, h3, h4⟩
  · exact .inl h
  · exact .inr ⟨g, cap, cur, h1, h2, (hb.block g (Array.getElem?_eq_some_iff.1 h3).1).trans h3, h4⟩
theorem IBuf.new (w : World) : IBuf w.heap.size (w.alloc (.cells #[.pointer none, .slice none 0 0, .int .i64 0, .bool false] 45)) none 0 false [] :=
  ⟨.pointer none, .slice none 0 0, heap_alloc_new w _, .inl rfl, World.ownsRow_nil _ _ _ _, rfl⟩
theorem Wrote.belowI {pb : Nat} {own own' : Option Nat} {w w' : World} {d : Int} {b : Bool} {Y : List UInt8} (h : Wrote pb own own' w w') (hb : IBuf pb w own d b Y) : Below pb w w' := by
  have := hb.lt
  refine ⟨h.os, h.tape, h.output, h.size, fun k hk => h.block k (by omega) (by omega) ?_⟩
  intro e; have := (hb.own_gt k e.symm).1; omega

/-- A builder that has been used. -/
def IBufS (pb : Nat) (w : World) (own : Option Nat) (d : Int) (b : Bool) (Y : List UInt8) : Prop :=
  ∃ v, w.heap[pb]? = some (.cells #[.pointer (some ⟨pb, 0, none⟩), v, .int .i64 d, .bool b] 45 (0, 0)) ∧ w.ownsRow (pb + 1) 5 1 v Y.length (u8s Y) ∧ v.ownBlock = own
/-- One of its cells is written. -/
theorem wrote_set {pb : Nat} {own : Option Nat} {w : World} (i : Nat) (x : Value) : Wrote pb own own w (w.setCell ⟨pb, i, none⟩ x) := by
  refine ⟨?_, ?_, ?_, ?_, fun k hk h1 h2 => Below.heap_setCell w ⟨pb, i, none⟩ x k h1, .inl rfl⟩ <;> simp [World.setCell]
theorem copy_any (pb : Nat) (w : World) (own : Option Nat) (d : Int) (b : Bool) (Y : List UInt8) (h : IBuf pb w own d b Y) :
    Calls Tryz.prog 51 #[.pointer (some ⟨pb, 0, none⟩)] w fun e w' => e = .returned (.tuple #[]) ∧ IBufS pb w' own d b Y ∧ Wrote pb own own w w' := by
  obtain ⟨q, v, hv, hq, ho, e⟩ := h
  rcases hq with rfl | rfl
  · refine (copy_nil pb w (by simp [World.cell?, hv]) (by simp [World.shape?, hv]) (frozen_of_row w pb 0 _ _ hv)).mono ?_
    rintro e w' ⟨rfl, rfl⟩
    refine ⟨rfl, ⟨v, ?_, ownsRow_setCell_below ho (show pb < pb + 1 by omega) _, ‹_›⟩, wrote_set 0 _⟩
    exact (heap_setCell_same w pb 0 _ _ _ hv).trans (by simp)
  · refine (copy_self pb w (by simp [World.cell?, hv])).mono ?_
    rintro e w' ⟨rfl, rfl⟩
    exact ⟨rfl, ⟨v, hv, ho, ‹_›⟩, Wrote.refl _ _ _⟩
theorem IBufS.put {pb : Nat} {w w1 : World} {v v1 : Value} {n m : Nat} {d : Int} {b : Bool} {X Y : List UInt8} (hv : w.heap[pb]? = some (.cells #[.pointer (some ⟨pb, 0, none⟩), v, .int .i64 d, .bool b] 45 (0, 0))) (ho : w.ownsRow (pb + 1) 5 1 v n (u8s X))
    (h1 : w1.ownsRow (pb + 1) 5 1 v1 m (u8s Y)) (hm : m = Y.length) (hg : w.grownBy w1 v.ownBlock) (hf : v1.ownBlock = v.ownBlock ∨ ∃ k, v1.ownBlock = some k ∧ w.heap.size ≤ k) :
    IBuf pb (w1.setCell ⟨pb, 1, none⟩ v1) v1.ownBlock d b Y ∧ Wrote pb v.ownBlock v1.ownBlock w (w1.setCell ⟨pb, 1, none⟩ v1) := by
  subst hm
  have hlt : pb < w.heap.size := (Array.getElem?_eq_some_iff.1 hv).1
  have hne : some pb ≠ v.ownBlock := by intro e; have := (ho.lt pb e.symm).1; omega
  have h2 := (hg.block pb hlt hne).trans hv
  refine ⟨⟨_, v1, (heap_setCell_same w1 pb 1 _ _ v1 h2).trans (by simp), .inr rfl, ownsRow_setCell_below h1 (show pb < pb + 1 by omega) v1, rfl⟩, ⟨?_, ?_, ?_, ?_, ?_, hf⟩⟩
  · simpa [World.setCell] using hg.os
  · simpa [World.setCell] using hg.tape
  · simpa [World.setCell] using hg.output
  · simpa [World.setCell] using hg.size
  · intro k hk h3 h4
    rw [Below.heap_setCell w1 ⟨pb, 1, none⟩ v1 k h3]
    exact hg.block k hk h4

/-- What a writer of the text does: to so deep, a line begun or not. -/
def IAdds (pb : Nat) (X T : List UInt8) (d : Int) (b : Bool) (own : Option Nat) (w : World) (e : Ending) (w' : World) : Prop :=
  (∃ r, e = .returned r) ∧ ∃ own', IBuf pb w' own' d b (X ++ T) ∧ Wrote pb own own' w w'

set_option maxHeartbeats 1000000 in
set_option maxRecDepth 100000 in
theorem ws_any (pb : Nat) (own : Option Nat) (d : Int) (b : Bool) (X : List UInt8) (s : ByteArray) (w : World) (h : IBuf pb w own d b X) (hb : X.length + s.size ≤ 1099511627776) :
    Calls Tryz.prog 52 #[.pointer (some ⟨pb, 0, none⟩), .string s] w (IAdds pb X s.data.toList d b own w) := by
  have HC := hid_mk (copy_any pb w own d b X h)
  have hlt := h.lt
  obtain ⟨i0, hi, hz0, hz1, hz2⟩ := info_parts info8
  clear h
  go_enter Tryz.func52, Tryz.ntmps52
  have HGO : Hid (∀ w1, IBufS pb w1 own d b X → ∃ a0 l0 c0, w1.cell? ⟨pb, 1, none⟩ = some (.slice a0 l0 c0) ∧ w1.heap[pb]? = some (.cells #[.pointer (some ⟨pb, 0, none⟩), .slice a0 l0 c0, .int .i64 d, .bool b] 45 (0, 0)) ∧ w1.ownsRow (pb + 1) 5 1 (.slice a0 l0 c0) X.length (u8s X) ∧ (Value.slice a0 l0 c0).ownBlock = own) := by
    rintro w1 ⟨v, hv, ho, e⟩
    obtain ⟨a0, l0, c0, rfl⟩ : ∃ a l c, v = .slice a l c := by
      rcases ho.2 with ⟨rfl, _⟩ | ⟨g, cap, cur, rfl, _⟩
      · exact ⟨_, _, _, rfl⟩
      · exact ⟨_, _, _, rfl⟩
    exact ⟨a0, l0, c0, by simp [World.cell?, hv], hv, ho, e⟩
  go_wp2_with (first
    | (go_at_call 51; refine HC.out.mono ?_; rintro e w1 ⟨rfl, hs, hw⟩; obtain ⟨a0, l0, c0, k0, hv, ho, he⟩ := HGO.out _ hs; have HV := hid_mk hv; have HO := hid_mk ho; have HE := hid_mk he; have HW := hid_mk hw; have hlt1 := hw.size; clear hv ho he hs hw)
    | (at_builtin; refine wpList_append_fresh _ rfl (.tmp 12) (.tmp 13) 39 9 rfl (pb + 1) 5 i0 Tryz.underlying39 Tryz.underlying9 hi hz0 hz1 hz2 _ X.length (u8s X) rfl HO.out s rfl (by omega) (by omega) ?_))
  intro v1 w2 h1 hg hf hsh
  obtain ⟨sa, sn, sc, rfl⟩ := hsh.out
  have hne : some pb ≠ (Value.slice a0 l0 c0).ownBlock := by intro e; have := (HO.out.lt pb e.symm).1; omega
  have h2 := (hg.block pb (by omega) hne).trans HV.out
  have k1 : w2.cell? ⟨pb, 1, none⟩ = some (.slice a0 l0 c0) := by simp [World.cell?, h2]
  have f1 := frozen_of_row w2 pb 1 _ _ h2
  have hp := IBufS.put (Y := X ++ s.data.toList) HV.out HO.out (by rw [u8s_append]; exact h1) (by rw [List.length_append, Array.length_toList]; rfl) hg hf
  have HP := hid_mk hp
  clear h1 hg hf h2 hp hsh HV HO
  go_wp2
  refine bodyPost_ret (v := .tuple #[.int .i64 s.size, .nilIface]) (by simp [results, Tryz.results52, go_sem]) rfl ?_
  refine ⟨⟨_, rfl⟩, _, HP.out.1, HW.out.trans ?_⟩
  rw [← HE.out]
  exact HP.out.2
end Go.Proofs.YtacamenjijlemaaGreatDoor

/- The program's printer: a byte is written; where a writing function stands. -/
namespace Go.Proofs.YtacamenjijlemaaGreatDoor
open Go.RowKit

/-- The text Y is written behind pb, and nothing else since w0. -/
structure IPst (pb : Nat) (own0 : Option Nat) (w0 : World) (d : Int) (b : Bool) (Y : List UInt8) (w : World) : Prop where
  buf : ∃ own, IBuf pb w own d b Y ∧ Wrote pb own0 own w0 w
  below : Below pb w0 w
theorem IBuf.alloc {pb : Nat} {w : World} {own : Option Nat} {d : Int} {b : Bool} {Y : List UInt8} (h : IBuf pb w own d b Y) (o : Obj) : IBuf pb (w.alloc o) own d b Y :=
  h.calm ((Below.refl _ _).alloc (Nat.le_refl _) _)
theorem IPst.start {pb : Nat} {own : Option Nat} {w : World} {d : Int} {b : Bool} {X : List UInt8} (h : IBuf pb w own d b X) : IPst pb own w d b X w := ⟨⟨own, h, Wrote.refl _ _ _⟩, Below.refl _ _⟩
theorem IPst.lt {pb : Nat} {own0 : Option Nat} {w0 w : World} {d : Int} {b : Bool} {Y : List UInt8} (h : IPst pb own0 w0 d b Y w) : pb < w.heap.size := by
  obtain ⟨own, hb, _⟩ := h.buf; exact hb.lt
theorem IPst.calm {pb : Nat} {own0 : Option Nat} {w0 w w' : World} {d : Int} {b : Bool} {Y : List UInt8} (h : IPst pb own0 w0 d b Y w) (hb : Below w.heap.size w w') : IPst pb own0 w0 d b Y w' := by
  have hl := h.lt
  obtain ⟨own, h1, h2⟩ := h.buf
  exact ⟨⟨own, h1.calm hb, h2.calm hb⟩, h.below.trans (hb.mono (by omega))⟩
theorem IPst.alloc {pb : Nat} {own0 : Option Nat} {w0 w : World} {d : Int} {b : Bool} {Y : List UInt8} (h : IPst pb own0 w0 d b Y w) (o : Obj) : IPst pb own0 w0 d b Y (w.alloc o) :=
  h.calm ((Below.refl _ _).alloc (Nat.le_refl _) _)
theorem IPst.drew {pb : Nat} {own0 : Option Nat} {w0 w : World} {d : Int} {b : Bool} {Y : List UInt8} (h : IPst pb own0 w0 d b Y w) : IPst pb own0 w0 d b Y w.drew :=
  h.calm ⟨rfl, rfl, rfl, Nat.le_refl _, fun _ _ => rfl⟩
theorem IPst.lift {P : Program} {f : FuncId} {args : Array Value} {pb : Nat} {own0 : Option Nat} {w0 w : World} {d d' : Int} {b b' : Bool} {Y t : List UInt8} (h : IPst pb own0 w0 d b Y w)
    (H : ∀ own, IBuf pb w own d b Y → Calls P f args w (IAdds pb Y t d' b' own w)) : Calls P f args w fun e w' => (∃ r, e = .returned r) ∧ IPst pb own0 w0 d' b' (Y ++ t) w' := by
  obtain ⟨own, h1, h2⟩ := h.buf
  refine (H own h1).mono ?_
  rintro e w' ⟨he, own', h3, h4⟩
  exact ⟨he, ⟨own', h3, h2.trans h4⟩, h.below.trans (h4.belowI h1)⟩
theorem IPst.adds {pb : Nat} {own0 : Option Nat} {w0 w : World} {d : Int} {b : Bool} {X Y T : List UInt8} (h : IPst pb own0 w0 d b Y w) (e : Y = X ++ T) (v : Value) : IAdds pb X T d b own0 w0 (.returned v) w := by
  obtain ⟨own, h1, h2⟩ := h.buf
  exact ⟨⟨v, rfl⟩, own, e ▸ h1, h2⟩
theorem IPst.startB {pb : Nat} {own : Option Nat} {w : World} {d : Int} {b : Bool} {X : List UInt8} (h : IBuf pb w own d b X) (o : Obj) : IPst pb own (w.alloc o) d b X (w.alloc o) := IPst.start (h.alloc o)
theorem IPst.box {pb : Nat} {own : Option Nat} {w W : World} {d d' : Int} {b b' : Bool} {X Y : List UInt8} {o : Obj} (h0 : IBuf pb w own d b X) (h : IPst pb own (w.alloc o) d' b' Y W) : W.heap[w.heap.size]? = some o := by
  obtain ⟨own', hb, hw⟩ := h.buf
  have hl := h0.lt
  rw [hw.block w.heap.size (by simp) (by omega) (by intro e; have := (h0.own_gt _ e.symm).2; omega)]
  exact heap_alloc_new w o
theorem IPst.node {pb : Nat} {own : Option Nat} {w : World} {d : Int} {b : Bool} {X : List UInt8} (h0 : IBuf pb w own d b X) (x y z t : Value) (ty : TypeId) : ∀ d' b' Y W, IPst pb own (w.alloc (.cells #[x, y, z, t] ty)) d' b' Y W →
    W.cell? ⟨w.heap.size, 0, none⟩ = some x ∧ W.cell? ⟨w.heap.size, 1, none⟩ = some y ∧ W.cell? ⟨w.heap.size, 2, none⟩ = some z ∧ W.cell? ⟨w.heap.size, 3, none⟩ = some t := by
  intro d' b' Y W h
  have e := h.box h0
  refine ⟨?_, ?_, ?_, ?_⟩ <;> simp [World.cell?, e]
theorem IPst.addsB {pb : Nat} {own : Option Nat} {w W : World} {d : Int} {b : Bool} {X Y T : List UInt8} {o : Obj} (h : IPst pb own (w.alloc o) d b Y W) (e : Y = X ++ T) (v : Value) : IAdds pb X T d b own w (.returned v) W := by
  obtain ⟨own', h1, h2⟩ := h.buf
  exact ⟨⟨v, rfl⟩, own', e ▸ h1, (Wrote.alloc pb own w o).trans h2⟩
theorem IPst.belowB {pb : Nat} {own : Option Nat} {w W : World} {d d' : Int} {b b' : Bool} {X Y : List UInt8} {o : Obj} (h0 : IBuf pb w own d b X) (h : IPst pb own (w.alloc o) d' b' Y W) : Below pb w W := by
  have hl := h0.lt
  exact ((Below.refl pb w).alloc (by omega) o).trans h.below
theorem row_allocI {pb : Nat} {own : Option Nat} {w : World} {d : Int} {b : Bool} {X : List UInt8} (h0 : IBuf pb w own d b X) {T : Nd} {v : Value} (h : Row 0 pb w T v) (o : Obj) : Row 0 pb (w.alloc o) T v := by
  have hl := h0.lt
  exact row_below ((Below.refl _ _).alloc (Nat.le_refl _) _) (by omega) h
theorem IPst.join {pb : Nat} {own0 : Option Nat} {w0 wr : World} {d : Int} {b : Bool} {Y : List UInt8} (h : IPst pb own0 w0 d b Y wr) : ∃ own, IBuf pb wr own d b Y ∧ ∀ d' b' Y' W o, IPst pb own (wr.alloc o) d' b' Y' W → IPst pb own0 w0 d' b' Y' W := by
  obtain ⟨own, h1, h2⟩ := h.buf
  refine ⟨own, h1, fun d' b' Y' W o h' => ?_⟩
  obtain ⟨own', h3, h4⟩ := h'.buf
  exact ⟨⟨own', h3, h2.trans ((Wrote.alloc pb own wr o).trans h4)⟩, h.below.trans (h'.belowB h1)⟩
/-- The four cells. -/
theorem IPst.cells {pb : Nat} {own0 : Option Nat} {w0 w : World} {d : Int} {b : Bool} {Y : List UInt8} (h : IPst pb own0 w0 d b Y w) : w.cell? ⟨pb, 2, none⟩ = some (.int .i64 d) ∧ w.cell? ⟨pb, 3, none⟩ = some (.bool b) ∧ w.frozen? ⟨pb, 2, none⟩ = false ∧ w.frozen? ⟨pb, 3, none⟩ = false := by
  obtain ⟨own, ⟨q, v, hv, _⟩, _⟩ := h.buf
  exact ⟨by simp [World.cell?, hv], by simp [World.cell?, hv], frozen_of_row w pb 2 _ _ hv, frozen_of_row w pb 3 _ _ hv⟩
theorem IPst.deep {pb : Nat} {own0 : Option Nat} {w0 w : World} {d : Int} {b : Bool} {Y : List UInt8} (h : IPst pb own0 w0 d b Y w) (d' : Int) : IPst pb own0 w0 d' b Y (w.setCell ⟨pb, 2, none⟩ (.int .i64 d')) := by
  have hl := h.lt
  obtain ⟨own, hb, hw⟩ := h.buf
  have hw2 := wrote_set (pb := pb) (own := own) (w := w) 2 (.int .i64 d')
  refine ⟨⟨own, ?_, hw.trans hw2⟩, h.below.trans (hw2.belowI hb)⟩
  obtain ⟨q, v, hv, hq, ho, e⟩ := hb
  exact ⟨q, v, (heap_setCell_same w pb 2 _ _ _ hv).trans (by simp), hq, ownsRow_setCell_below ho (show pb < pb + 1 by omega) _, e⟩
theorem IPst.begun {pb : Nat} {own0 : Option Nat} {w0 w : World} {d : Int} {b : Bool} {Y : List UInt8} (h : IPst pb own0 w0 d b Y w) (b' : Bool) : IPst pb own0 w0 d b' Y (w.setCell ⟨pb, 3, none⟩ (.bool b')) := by
  have hl := h.lt
  obtain ⟨own, hb, hw⟩ := h.buf
  have hw2 := wrote_set (pb := pb) (own := own) (w := w) 3 (.bool b')
  refine ⟨⟨own, ?_, hw.trans hw2⟩, h.below.trans (hw2.belowI hb)⟩
  obtain ⟨q, v, hv, hq, ho, e⟩ := hb
  exact ⟨q, v, (heap_setCell_same w pb 3 _ _ _ hv).trans (by simp), hq, ownsRow_setCell_below ho (show pb < pb + 1 by omega) _, e⟩

theorem IPst.ws {pb : Nat} {own0 : Option Nat} {w0 w : World} {d : Int} {b : Bool} {Y : List UInt8} (h : IPst pb own0 w0 d b Y w) (s : ByteArray) (hb : Y.length + s.data.toList.length ≤ 1099511627776) :
    Calls Tryz.prog 52 #[.pointer (some ⟨pb, 0, none⟩), .string s] w fun e w' => (∃ r, e = .returned r) ∧ IPst pb own0 w0 d b (Y ++ s.data.toList) w' :=
  h.lift fun own hbuf => ws_any pb own d b Y s w hbuf (by simpa using hb)

set_option maxHeartbeats 1000000 in
set_option maxRecDepth 100000 in
theorem wb_any (pb : Nat) (own : Option Nat) (d : Int) (b : Bool) (X : List UInt8) (w : World) (h : IBuf pb w own d b X) (hb : X.length + 1 ≤ 1099511627776) :
    Calls Tryz.prog 36 #[.pointer (some ⟨pb, 0, none⟩), .int .u8 10] w (IAdds pb X [10] d b own w) := by
  have HC := hid_mk (copy_any pb w own d b X h)
  have hlt := h.lt
  obtain ⟨i0, hi, hz0, hz1, hz2⟩ := info_parts info8
  clear h
  have HGO : Hid (∀ w1, IBufS pb w1 own d b X → ∃ a0 l0 c0, w1.cell? ⟨pb, 1, none⟩ = some (.slice a0 l0 c0) ∧ (∀ o, (w1.alloc o).heap[pb]? = some (.cells #[.pointer (some ⟨pb, 0, none⟩), .slice a0 l0 c0, .int .i64 d, .bool b] 45 (0, 0))) ∧ (∀ o, (w1.alloc o).ownsRow (pb + 1) 5 1 (.slice a0 l0 c0) X.length (u8s X)) ∧ (Value.slice a0 l0 c0).ownBlock = own) := by
    rintro w1 ⟨v, hv, ho, e⟩
    obtain ⟨a0, l0, c0, rfl⟩ : ∃ a l c, v = .slice a l c := by
      rcases ho.2 with ⟨rfl, _⟩ | ⟨g, cap, cur, rfl, _⟩
      · exact ⟨_, _, _, rfl⟩
      · exact ⟨_, _, _, rfl⟩
    exact ⟨a0, l0, c0, by simp [World.cell?, hv], fun o => (Below.heap_alloc w1 o pb (Array.getElem?_eq_some_iff.1 hv).1).trans hv, fun o => ho.alloc o, e⟩
  go_enter Tryz.func36, Tryz.ntmps36
  go_wp2_with (first
    | (go_at_call 51; refine HC.out.mono ?_; rintro e w1 ⟨rfl, hs, hw⟩; obtain ⟨a0, l0, c0, k0, hv, ho, he⟩ := HGO.out _ hs; have HV := hid_mk hv; have HO := hid_mk ho; have HE := hid_mk he; have HW := hid_mk hw; have hlt1 := hw.size; clear hv ho he hs hw)
    | (at_builtin; refine wpList_append_freshS _ rfl (.tmp 11) (.tmp 13) 39 rfl (pb + 1) 5 i0 Tryz.underlying39 hi hz0 hz1 hz2 _ X.length (u8s X) rfl (HO.out _) ⟨w1.heap.size, 0, none⟩ 1 1 [.int .u8 10] rfl rfl (by intro j u hj; rcases j with _ | j <;> simp_all [Addr.add]) (by intro u hu; simp at hu; subst hu; rfl) (by omega) (by simp; omega) ?_))
  intro v1 w2 h1 hg hf hsh
  obtain ⟨sa, sn, sc, rfl⟩ := hsh.out
  have hne : some pb ≠ (Value.slice a0 l0 c0).ownBlock := by intro e; have := ((HO.out (.cells #[] 0)).lt pb e.symm).1; omega
  have h2 := (hg.block pb (by simp; omega) hne).trans (HV.out _)
  have k1 : w2.cell? ⟨pb, 1, none⟩ = some (.slice a0 l0 c0) := by simp [World.cell?, h2]
  have f1 := frozen_of_row w2 pb 1 _ _ h2
  have hp := IBufS.put (Y := X ++ [10]) (HV.out _) (HO.out _) (by rw [u8s_append]; exact h1) (by simp) hg (by simpa using hf)
  have HP := hid_mk hp
  clear h1 hg hf h2 hp hsh HV HO
  go_wp2
  go_ret
  refine ⟨⟨_, rfl⟩, _, HP.out.1, HW.out.trans ?_⟩
  rw [← HE.out]
  exact (Wrote.alloc _ _ _ _).trans HP.out.2
theorem IPst.wb {pb : Nat} {own0 : Option Nat} {w0 w : World} {d : Int} {b : Bool} {Y : List UInt8} (h : IPst pb own0 w0 d b Y w) (hb : Y.length + 1 ≤ 1099511627776) :
    Calls Tryz.prog 36 #[.pointer (some ⟨pb, 0, none⟩), .int .u8 10] w fun e w' => (∃ r, e = .returned r) ∧ IPst pb own0 w0 d b (Y ++ [10]) w' :=
  h.lift fun own hbuf => wb_any pb own d b Y w hbuf hb

set_option maxHeartbeats 1000000 in
set_option maxRecDepth 100000 in
/-- A line ends. -/
theorem end_any (pb : Nat) (own : Option Nat) (d : Int) (b : Bool) (X : List UInt8) (w : World) (h : IBuf pb w own d b X) (hb : X.length + 1 ≤ 1099511627776) :
    Calls Tryz.prog 25 #[.pointer (some ⟨pb, 0, none⟩)] w (IAdds pb X [10] d false own w) := by
  have HP := hid_mk (IPst.start h)
  clear h
  go_enter Tryz.func25, Tryz.ntmps25
  go_wp2_with (go_at_call 36; refine (HP.out.wb hb).mono ?_; rintro e w1 ⟨⟨r, rfl⟩, hp⟩; obtain ⟨k2, k3, f2, f3⟩ := hp.cells; have HP := hid_mk (hp.begun false); clear hp)
  go_end0
  exact HP.out.adds rfl _
theorem IPst.endl {pb : Nat} {own0 : Option Nat} {w0 w : World} {d : Int} {b : Bool} {Y : List UInt8} (h : IPst pb own0 w0 d b Y w) (hb : Y.length + 1 ≤ 1099511627776) :
    Calls Tryz.prog 25 #[.pointer (some ⟨pb, 0, none⟩)] w fun e w' => (∃ r, e = .returned r) ∧ IPst pb own0 w0 d false (Y ++ [10]) w' :=
  h.lift fun own hbuf => end_any pb own d b Y w hbuf hb
end Go.Proofs.YtacamenjijlemaaGreatDoor

/- The program's printer: texts are put. -/
namespace Go.Proofs.YtacamenjijlemaaGreatDoor
open Go.RowKit

/-- The first k texts, one behind another. -/
def catS (xs : List ByteArray) (k : Nat) : List UInt8 := catTo (fun i => (xs.getD i ⟨#[]⟩).data.toList) k
/-- What stands ahead of a line's first text. -/
def ahead (d : Nat) (b : Bool) : List UInt8 := if b then [] else tabsT d
theorem rep_tabs (d : Nat) : Lib.repeatL [9] d = tabsT d := by
  induction d with
  | zero => rfl
  | succ d ih => show [9] ++ Lib.repeatL [9] d = _; rw [ih]; rfl
theorem tabs_rep (d : Nat) (w : World) (h : d ≤ 1099511627776) : Calls Tryz.prog 53 #[.string ⟨#[9]⟩, .int .i64 d] w fun e w' => e = .returned (.string (strT (tabsT d))) ∧ Below w.heap.size w w' := by
  have := Tryz.strings_Repeat ⟨#[9]⟩ d w (by omega) (by show 1 * d ≤ _; omega)
  rw [show (⟨#[9]⟩ : ByteArray).data.toList = [9] from rfl, rep_tabs] at this
  exact this

set_option maxHeartbeats 4000000 in
set_option maxRecDepth 100000 in
theorem put_any (pb : Nat) (own : Option Nat) (d : Nat) (b : Bool) (X : List UInt8) (W : World) (xs : List ByteArray) (h : IBuf pb W own d b X) (hx : xs.length ≤ 1000) (hb : X.length + ((ahead d b).length + (catS xs xs.length).length) ≤ 1099511627776) :
    Calls Tryz.prog 37 #[.pointer (some ⟨pb, 0, none⟩), .slice (some ⟨W.heap.size, 0, none⟩) xs.length xs.length] (W.alloc (.cells (xs.map Value.string).toArray 9)) (IAdds pb X (ahead d b ++ catS xs xs.length) d true own W) := by
  have HC : Hid (∀ d' b' Y V, IPst pb own (W.alloc (.cells (xs.map Value.string).toArray 9)) d' b' Y V → ∀ i, i < xs.length → V.cell? ⟨W.heap.size, i, none⟩ = some (.string (xs.getD i ⟨#[]⟩))) := by
    intro d' b' Y V hp i hi
    have e := hp.box h
    simp [World.cell?, e, hi, List.getD]
  have HP := hid_mk (IPst.startB h (.cells (xs.map Value.string).toArray 9))
  have HB := hid_mk hb
  have hd : d ≤ 1099511627776 ∨ b = true := by
    cases b
    · left; have := hb; simp [ahead, tabsT] at this; omega
    · right; rfl
  have HL := hid_mk (fun i (h : i < xs.length) => catTo_at (fun i => (xs.getD i ⟨#[]⟩).data.toList) h)
  have hp := HP.out
  obtain ⟨k2, k3, f2, f3⟩ := hp.cells
  clear h hb hp
  cases b
  · have hd : d ≤ 1099511627776 := by rcases hd with h | h; exact h; cases h
    have HT := hid_mk (fun V : World => tabs_rep d V hd)
    go_enter Tryz.func37, Tryz.ntmps37
    go_wp2
    go_region_with (first
      | (go_at_call 53; refine (HT.out _).mono ?_; rintro e w1 ⟨rfl, hb1⟩; have hp := HP.out.drew.calm hb1; obtain ⟨k2, k3, f2, f3⟩ := hp.cells; have HP := hid_mk hp; clear hp hb1)
      | (go_at_call 52; refine (HP.out.ws _ (by have := HB.out; simp [ahead] at this; simp [strT]; omega)).mono ?_; rintro e w1 ⟨⟨r, rfl⟩, hp⟩; obtain ⟨k2, k3, f2, f3⟩ := hp.cells; have HP := hid_mk (hp.begun true); clear hp))
    go_wp2
    go_loopw [25] (fun i V => ∃ k : Nat, k ≤ xs.length ∧ i = .int .i64 k ∧ Hid (IPst pb own (W.alloc (.cells (xs.map Value.string).toArray 9)) d true (X ++ ahead d false ++ catS xs k) V)) (fun i _ => xs.length - (intOf i).toNat)
    case atStart => exact ⟨0, by omega, rfl, hid_mk (by simpa [catS, catTo, ahead, strT] using HP.out)⟩
    case round =>
      obtain ⟨k, hk, rfl, HP⟩ := hrel
      by_cases hlt : k < xs.length
      · have c0 := HC.out _ _ _ _ HP.out k hlt
        have hcl : (catS xs k).length + (xs.getD k ⟨#[]⟩).data.toList.length ≤ (catS xs xs.length).length := HL.out k hlt
        have HX : Hid (catS xs (k + 1) = catS xs k ++ (xs.getD k ⟨#[]⟩).data.toList) := rfl
        generalize xs.getD k ⟨#[]⟩ = s at *
        go_wp2_with (go_at_call 52; refine (HP.out.ws _ (by have := HB.out; simp only [List.length_append]; omega)).mono ?_; rintro e w1 ⟨⟨r, rfl⟩, hp⟩; have HP := hid_mk hp; clear hp)
        exact ⟨⟨k + 1, by omega, by go_num, hid_mk (by rw [HX.out, ← List.append_assoc]; exact HP.out)⟩, by simp [intOf]; omega⟩
      · obtain rfl : k = xs.length := by omega
        go_wp2
        go_end0
        exact HP.out.addsB (by simp) _
  · go_enter Tryz.func37, Tryz.ntmps37
    go_wp2
    go_loopw [25] (fun i V => ∃ k : Nat, k ≤ xs.length ∧ i = .int .i64 k ∧ Hid (IPst pb own (W.alloc (.cells (xs.map Value.string).toArray 9)) d true (X ++ ahead d true ++ catS xs k) V)) (fun i _ => xs.length - (intOf i).toNat)
    case atStart => exact ⟨0, by omega, rfl, hid_mk (by simpa [catS, catTo, ahead, strT] using HP.out)⟩
    case round =>
      obtain ⟨k, hk, rfl, HP⟩ := hrel
      by_cases hlt : k < xs.length
      · have c0 := HC.out _ _ _ _ HP.out k hlt
        have hcl : (catS xs k).length + (xs.getD k ⟨#[]⟩).data.toList.length ≤ (catS xs xs.length).length := HL.out k hlt
        have HX : Hid (catS xs (k + 1) = catS xs k ++ (xs.getD k ⟨#[]⟩).data.toList) := rfl
        generalize xs.getD k ⟨#[]⟩ = s at *
        go_wp2_with (go_at_call 52; refine (HP.out.ws _ (by have := HB.out; simp only [List.length_append]; omega)).mono ?_; rintro e w1 ⟨⟨r, rfl⟩, hp⟩; have HP := hid_mk hp; clear hp)
        exact ⟨⟨k + 1, by omega, by go_num, hid_mk (by rw [HX.out, ← List.append_assoc]; exact HP.out)⟩, by simp [intOf]; omega⟩
      · obtain rfl : k = xs.length := by omega
        go_wp2
        go_end0
        exact HP.out.addsB (by simp) _
theorem IPst.put {pb : Nat} {own0 : Option Nat} {w0 w : World} {d : Nat} {b : Bool} {Y : List UInt8} (h : IPst pb own0 w0 d b Y w) (xs : List ByteArray) (hx : xs.length ≤ 1000) (hb : Y.length + ((ahead d b).length + (catS xs xs.length).length) ≤ 1099511627776) :
    Calls Tryz.prog 37 #[.pointer (some ⟨pb, 0, none⟩), .slice (some ⟨w.heap.size, 0, none⟩) xs.length xs.length] (w.alloc (.cells (xs.map Value.string).toArray 9)) fun e w' => (∃ r, e = .returned r) ∧ IPst pb own0 w0 d true (Y ++ (ahead d b ++ catS xs xs.length)) w' := by
  obtain ⟨own, h1, h2⟩ := h.buf
  refine (put_any pb own d b Y w xs h1 hx hb).mono ?_
  rintro e w' ⟨he, own', h3, h4⟩
  exact ⟨he, ⟨own', h3, h2.trans h4⟩, h.below.trans (h4.belowI h1)⟩
end Go.Proofs.YtacamenjijlemaaGreatDoor

/- The program's printer of expressions: what it is asked; parentheses. -/
namespace Go.Proofs.YtacamenjijlemaaGreatDoor
open Go.RowKit

/-- The tables that it reads. -/
def Gl (pb : Nat) (w : World) : Prop := ∀ W, Below pb w W → Lib.TabIs Tryz.prog W "internal/strconv.uint64pow10" .u64 Lib.pow10Tab ∧ StrRow W 0 [⟨#[]⟩, ⟨#[105, 110, 116]⟩, ⟨#[98, 111, 111, 108]⟩, ⟨#[99, 104, 97, 110, 32, 105, 110, 116]⟩]
theorem Gl.keep {pb : Nat} {w w' : World} (h : Gl pb w) (hb : Below pb w w') : Gl pb w' := fun W hW => h W (hb.trans hW)
theorem Gl.alloc {pb : Nat} {w : World} (h : Gl pb w) (hp : pb < w.heap.size) (o : Obj) : Gl pb (w.alloc o) := h.keep ((Below.refl _ _).alloc (by omega) _)

def IEx (T : Nd) : Prop := ∀ (pb : Nat) (own : Option Nat) (X : List UInt8) (d : Nat) (b : Bool) (w : World) (v : Value), IBuf pb w own d b X → Gl pb w → T.Fine → Row 0 pb w T v → T.eOk = true →
  X.length + ((ahead d b).length + ((prN T).ex 1).length) ≤ 1099511627776 → Calls Tryz.prog 83 #[.pointer (some ⟨pb, 0, none⟩), T.val v] w (IAdds pb X (ahead d b ++ (prN T).ex 1) d true own w)
theorem IPst.expr {T : Nd} (hT : IEx T) {pb : Nat} {own0 : Option Nat} {w0 w : World} {d : Nat} {b : Bool} {Y : List UInt8} (h : IPst pb own0 w0 d b Y w) (v : Value) (hg : Gl pb w0) (hf : T.Fine) (hr : Row 0 pb w0 T v) (hok : T.eOk = true) (hb : Y.length + ((ahead d b).length + ((prN T).ex 1).length) ≤ 1099511627776) :
    Calls Tryz.prog 83 #[.pointer (some ⟨pb, 0, none⟩), T.val v] w fun e w' => (∃ r, e = .returned r) ∧ IPst pb own0 w0 d true (Y ++ (ahead d b ++ (prN T).ex 1)) w' :=
  h.lift fun own hbuf => hT pb own Y d b w v hbuf (hg.keep h.below) hf (row_below h.below (Nat.le_refl _) hr) hok hb
theorem ahead_true (d : Nat) : ahead d true = [] := rfl

/-- As the walk meets it. -/
theorem IPst.putAt {pb : Nat} {own0 : Option Nat} {w0 w : World} {d : Nat} {b : Bool} {Y : List UInt8} (h : IPst pb own0 w0 d b Y w) (xs : List ByteArray) (t n : Nat) (A : Array Value) (ht : w.heap.size = t) (hn : xs.length = n) (hA : (xs.map Value.string).toArray = A) (hx : n ≤ 1000) (hb : Y.length + ((ahead d b).length + (catS xs n).length) ≤ 1099511627776) :
    Calls Tryz.prog 37 #[.pointer (some ⟨pb, 0, none⟩), .slice (some ⟨t, 0, none⟩) n n] (w.alloc (.cells A 9)) fun e w' => (∃ r, e = .returned r) ∧ IPst pb own0 w0 d true (Y ++ (ahead d b ++ catS xs n)) w' := by
  subst ht hn hA
  exact h.put xs hx hb
/-- How an expression stands within another. -/
theorem ex_level {T : Nd} (h : T.eOk = true) (l : Nat) (hl : 1 ≤ l) : (prN T).ex l = parT (decide (T.kind = 28) && decide (lvl T.name < l)) ((prN T).ex 1) := by
  by_cases hk : T.kind = 28
  · have hlv : 0 < lvl T.name := (ex_ok_28 hk h).1
    rw [ex_text_28 T hk, ex_text_28 T hk]
    have h1 : decide (lvl T.name < 1) = false := by simp; omega
    rw [h1]
    simp [hk, parT]
  · have e : decide (T.kind = 28) = false := by simp [hk]
    rw [e]
    simp only [Bool.false_and, parT, Bool.false_eq_true, if_false]
    rw [eOk_eq] at h
    cases T with
    | nil => rfl
    | mk k n s len kids =>
      have hk : ¬ k = 28 := hk
      simp only [prN, prEx, hk, if_false]

set_option maxHeartbeats 1000000 in
set_option maxRecDepth 100000 in
theorem minus_any (T : Nd) (w : World) (a : Option Addr) (l c : Nat) : Calls Tryz.prog 100 #[T.val (.slice a l c)] w fun e w' => e = .returned (.bool ((T.kind == 27) && (T.name.toList == [45]))) ∧ Below w.heap.size w w' := by
  have HB : Hid (∀ o, Below w.heap.size w (w.alloc o)) := fun o => (Below.refl _ _).alloc (Nat.le_refl _) _
  unfold Nd.val
  generalize T.name = ts at *
  generalize T.num = tn at *
  generalize T.kind = tk at *
  cases h1 : (tk == 27)
  all_goals cases h2 : (ts.toList == [45])
  all_goals go_enter Tryz.func100, Tryz.ntmps100
  all_goals go_wp2
  all_goals go_ret
  all_goals exact ⟨rfl, HB.out _⟩

set_option maxHeartbeats 1000000 in
set_option maxRecDepth 100000 in
theorem binds_any (T : Nd) (w : World) (a : Option Addr) (l c : Nat) (n : Nat) : Calls Tryz.prog 101 #[T.val (.slice a l c), .int .i64 n] w fun e w' => e = .returned (.bool (decide (T.kind = 28) && decide (lvl T.name < n))) ∧ Below w.heap.size w w' := by
  have HB : Hid (∀ o, Below w.heap.size w (w.alloc o)) := fun o => (Below.refl _ _).alloc (Nat.le_refl _) _
  have HV := hid_mk (fun W : World => binding_any T.name W)
  unfold Nd.val
  generalize T.name = ts at *
  generalize T.num = tn at *
  generalize T.kind = tk at *
  generalize lvl ts = lv at *
  by_cases h1 : tk = 28
  · subst h1
    by_cases h2 : lv < n
    all_goals go_enter Tryz.func101, Tryz.ntmps101
    all_goals go_wp2_with (go_at_call 49; refine (HV.out _).mono ?_; rintro e w1 ⟨rfl, rfl⟩)
    all_goals go_ret
    all_goals exact ⟨ret_bool (by simp [h2]), HB.out _⟩
  · have hb : (tk == 28) = false := beq_eq_false_iff_ne.2 h1
    have HD : Hid (decide (tk = 28) = false) := by unfold Hid; simp [h1]
    clear h1
    go_enter Tryz.func101, Tryz.ntmps101
    go_wp2
    go_ret
    exact ⟨ret_bool (by rw [HD.out]; rfl), HB.out _⟩

set_option maxHeartbeats 1000000 in
set_option maxRecDepth 100000 in
theorem group_of (T : Nd) (ih : IEx T) (par : Bool) (pb : Nat) (own : Option Nat) (X : List UInt8) (d : Nat) (b : Bool) (w : World) (v : Value) (hbuf : IBuf pb w own d b X) (hg : Gl pb w) (hf : T.Fine) (hr : Row 0 pb w T v) (hok : T.eOk = true)
    (hb : X.length + ((ahead d b).length + (parT par ((prN T).ex 1)).length) ≤ 1099511627776) :
    Calls Tryz.prog 99 #[.pointer (some ⟨pb, 0, none⟩), T.val v, .bool par] w (IAdds pb X (ahead d b ++ parT par ((prN T).ex 1)) d true own w) := by
  have hn := T.fine_len hf
  obtain ⟨a, cap, rfl, _⟩ := row_eq.1 hr
  have HP := hid_mk (IPst.startB hbuf (.cells #[.int .i64 T.kind, .int .i64 T.num, .string T.name, .slice a T.len cap] 30))
  have HN := hid_mk (IPst.node hbuf (.int .i64 T.kind) (.int .i64 T.num) (.string T.name) (.slice a T.len cap) 30)
  have HR := hid_mk (row_allocI hbuf hr (.cells #[.int .i64 T.kind, .int .i64 T.num, .string T.name, .slice a T.len cap] 30))
  have HG := hid_mk (hg.alloc hbuf.lt (.cells #[.int .i64 T.kind, .int .i64 T.num, .string T.name, .slice a T.len cap] 30))
  have HI := hid_mk ih
  have HF := hid_mk hf
  have HE := hid_mk hok
  have HB := hid_mk hb
  clear hbuf hg hf hr hok hb ih
  unfold Nd.val
  cases par
  · go_enter Tryz.func99, Tryz.ntmps99
    go_wp2_with (go_at_call 83; refine (HP.out.expr HI.out _ HG.out HF.out HR.out HE.out HB.out).mono ?_; rintro e w2 ⟨⟨r, rfl⟩, hp⟩; have HP := hid_mk hp; clear hp)
    go_end0
    exact HP.out.addsB rfl _
  · go_enter Tryz.func99, Tryz.ntmps99
    go_wp2_with (first
      | (go_at_call_of 37 w; refine (HP.out.putAt [⟨#[40]⟩] _ _ _ (by simp) rfl rfl (by decide) (by have := HB.out; simp [catS, catTo, parT] at this ⊢; omega)).mono ?_; rintro e w2 ⟨⟨r, rfl⟩, hp⟩; obtain ⟨b0, b1, b2, b3⟩ := HN.out _ _ _ _ hp; have HP := hid_mk hp; clear hp)
      | (go_at_call 83; refine (HP.out.expr HI.out _ HG.out HF.out HR.out HE.out (by have := HB.out; simp [catS, catTo, parT, ahead_true] at this ⊢; omega)).mono ?_; rintro e w3 ⟨⟨r, rfl⟩, hp⟩; have HP := hid_mk hp; clear hp)
      | (go_at_call_of 37 w3; refine (HP.out.putAt [⟨#[41]⟩] _ _ _ rfl rfl rfl (by decide) (by have := HB.out; simp [catS, catTo, parT, ahead_true] at this ⊢; omega)).mono ?_; rintro e w4 ⟨⟨r, rfl⟩, hp⟩; have HP := hid_mk hp; clear hp))
    go_end0
    exact HP.out.addsB (by simp [catS, catTo, parT, ahead_true]) _
end Go.Proofs.YtacamenjijlemaaGreatDoor

/- The program's printer: what is asked of a writer of a node. -/
namespace Go.Proofs.YtacamenjijlemaaGreatDoor
open Go.RowKit

/-- The function f writes t of T, so deep as it stands. -/
def IW (f : FuncId) (T : Nd) (t : Nat → List UInt8) : Prop := ∀ (pb : Nat) (own : Option Nat) (X : List UInt8) (d : Nat) (b : Bool) (w : World) (v : Value), IBuf pb w own d b X → Gl pb w → T.Fine → Row 0 pb w T v →
  X.length + ((ahead d b).length + (t d).length) ≤ 1099511627776 → Calls Tryz.prog f #[.pointer (some ⟨pb, 0, none⟩), T.val v] w (IAdds pb X (ahead d b ++ t d) d true own w)
theorem IPst.fn {f : FuncId} {T : Nd} {t : Nat → List UInt8} (hT : IW f T t) {pb : Nat} {own0 : Option Nat} {w0 w : World} {d : Nat} {b : Bool} {Y : List UInt8} (h : IPst pb own0 w0 d b Y w) (v : Value) (hg : Gl pb w0) (hf : T.Fine) (hr : Row 0 pb w0 T v) (hb : Y.length + ((ahead d b).length + (t d).length) ≤ 1099511627776) :
    Calls Tryz.prog f #[.pointer (some ⟨pb, 0, none⟩), T.val v] w fun e w' => (∃ r, e = .returned r) ∧ IPst pb own0 w0 d true (Y ++ (ahead d b ++ t d)) w' :=
  h.lift fun own hbuf => hT pb own Y d b w v hbuf (hg.keep h.below) hf (row_below h.below (Nat.le_refl _) hr) hb
theorem IPst.group {T : Nd} (hT : IEx T) (par : Bool) {pb : Nat} {own0 : Option Nat} {w0 w : World} {d : Nat} {b : Bool} {Y : List UInt8} (h : IPst pb own0 w0 d b Y w) (v : Value) (hg : Gl pb w0) (hf : T.Fine) (hr : Row 0 pb w0 T v) (hok : T.eOk = true) (hb : Y.length + ((ahead d b).length + (parT par ((prN T).ex 1)).length) ≤ 1099511627776) :
    Calls Tryz.prog 99 #[.pointer (some ⟨pb, 0, none⟩), T.val v, .bool par] w fun e w' => (∃ r, e = .returned r) ∧ IPst pb own0 w0 d true (Y ++ (ahead d b ++ parT par ((prN T).ex 1))) w' :=
  h.lift fun own hbuf => group_of T hT par pb own Y d b w v hbuf (hg.keep h.below) hf (row_below h.below (Nat.le_refl _) hr) hok hb

theorem IPst.startOn {pb : Nat} {own : Option Nat} {w w0 : World} {d : Int} {b : Bool} {X : List UInt8} (h : IBuf pb w own d b X) (hb : Below w.heap.size w w0) : IPst pb own w0 d b X w0 := IPst.start (h.calm hb)
theorem IPst.kept {pb : Nat} {own : Option Nat} {w w0 W : World} {d d' : Int} {b b' : Bool} {X Y : List UInt8} (h0 : IBuf pb w own d b X) (h : IPst pb own w0 d' b' Y W) (k : Nat) (h1 : w.heap.size ≤ k) (h2 : k < w0.heap.size) (o : Nat) : W.cell? ⟨k, o, none⟩ = w0.cell? ⟨k, o, none⟩ := by
  obtain ⟨own', hb, hw⟩ := h.buf
  have hl := h0.lt
  exact hw.cell (p := ⟨k, o, none⟩) h2 (by show k ≠ pb; omega) (by intro e; have := (h0.own_gt k e.symm).2; omega)
theorem IPst.addsOn {pb : Nat} {own : Option Nat} {w w0 W : World} {d : Int} {b : Bool} {X Y T : List UInt8} (hb : Below w.heap.size w w0) (h : IPst pb own w0 d b Y W) (e : Y = X ++ T) (v : Value) : IAdds pb X T d b own w (.returned v) W := by
  obtain ⟨own', h1, h2⟩ := h.buf
  exact ⟨⟨v, rfl⟩, own', e ▸ h1, ((Wrote.refl pb own w).calm hb).trans h2⟩
theorem IPst.belowOn {pb : Nat} {own : Option Nat} {w w0 W : World} {d d' : Int} {b b' : Bool} {X Y : List UInt8} (h0 : IBuf pb w own d b X) (hb : Below w.heap.size w w0) (h : IPst pb own w0 d' b' Y W) : Below pb w W := by
  have hl := h0.lt
  exact (hb.mono (by omega)).trans h.below
theorem row_on {pb : Nat} {own : Option Nat} {w w0 : World} {d : Int} {b : Bool} {X : List UInt8} (h0 : IBuf pb w own d b X) (hb : Below w.heap.size w w0) {T : Nd} {v : Value} (h : Row 0 pb w T v) : Row 0 pb w0 T v := by
  have hl := h0.lt
  exact row_below hb (by omega) h
theorem gl_on {pb : Nat} {own : Option Nat} {w w0 : World} {d : Int} {b : Bool} {X : List UInt8} (h0 : IBuf pb w own d b X) (hb : Below w.heap.size w w0) (h : Gl pb w) : Gl pb w0 := by
  have hl := h0.lt
  exact h.keep (hb.mono (by omega))
/-- Behind a draw. -/
theorem IPst.putD {pb : Nat} {own0 : Option Nat} {w0 w : World} {d : Nat} {b : Bool} {Y : List UInt8} (h : IPst pb own0 w0 d b Y w) (xs : List ByteArray) (t n : Nat) (A : Array Value) (ht : w.heap.size = t) (hn : xs.length = n) (hA : (xs.map Value.string).toArray = A) (hx : n ≤ 1000) (hb : Y.length + ((ahead d b).length + (catS xs n).length) ≤ 1099511627776) :
    Calls Tryz.prog 37 #[.pointer (some ⟨pb, 0, none⟩), .slice (some ⟨t, 0, none⟩) n n] (w.alloc (.cells A 9)).drew fun e w' => (∃ r, e = .returned r) ∧ IPst pb own0 w0 d true (Y ++ (ahead d b ++ catS xs n)) w' :=
  h.drew.putAt xs t n A ht hn hA hx hb
/-- For lengths and texts. -/
theorem txt : (∀ d, ahead d true = []) ∧ (∀ a : ByteArray, catS [a] 1 = a.data.toList) ∧ (∀ a b : ByteArray, catS [a, b] 2 = a.data.toList ++ b.data.toList) ∧ (∀ a b c : ByteArray, catS [a, b, c] 3 = a.data.toList ++ (b.data.toList ++ c.data.toList)) ∧ (∀ a b : List UInt8, (a ++ b).length = a.length + b.length) ∧ (∀ a b c : List UInt8, a ++ b ++ c = a ++ (b ++ c)) := by
  refine ⟨fun _ => rfl, fun a => ?_, fun a b => ?_, fun a b c => ?_, fun a b => List.length_append, fun a b c => List.append_assoc a b c⟩ <;> simp [catS, catTo]
theorem six_level {T : Nd} (h : T.eOk = true) : parT (T.kind == 28) ((prN T).ex 1) = (prN T).ex 6 := by
  have := lvl_le T.name
  rw [ex_level h 6 (by omega)]
  congr 1
  rw [Bool.eq_iff_iff]; simp; omega
end Go.Proofs.YtacamenjijlemaaGreatDoor

/- The program's printer: expressions: a receive, a sign of one side. -/
namespace Go.Proofs.YtacamenjijlemaaGreatDoor
open Go.RowKit

set_option maxHeartbeats 4000000 in
set_option maxRecDepth 100000 in
theorem recv_of (T : Nd) (hT : IEx T) (hok : T.eOk = true) : IW 95 T (fun d => [60, 45] ++ (prN T).ex 6) := by
  intro pb own X d b w v hbuf hg hf hr hb
  have hn := T.fine_len hf
  rw [← six_level hok] at hb ⊢
  have HI := hid_mk hT
  have HE := hid_mk hok
  have HF := hid_mk hf
  have HRR := hid_mk hr
  obtain ⟨a, cap, rfl, _⟩ := row_eq.1 hr
  have hval : T.val (.slice a T.len cap) = .agg #[.int .i64 T.kind, .int .i64 T.num, .string T.name, .slice a T.len cap] := by unfold Nd.val; rfl
  rw [hval]
  have hb0 : Below w.heap.size w (w.alloc (.cells #[.int .i64 T.kind, .int .i64 T.num, .string T.name, .slice a T.len cap] 30)) := ((Below.refl w.heap.size w).alloc (Nat.le_refl _) _)
  have HP := hid_mk (IPst.startOn hbuf hb0)
  have HN := hid_mk (fun d' b' Y W (h : IPst pb own (w.alloc (.cells #[.int .i64 T.kind, .int .i64 T.num, .string T.name, .slice a T.len cap] 30)) d' b' Y W) => (show W.cell? ⟨w.heap.size, 0, none⟩ = some (.int .i64 T.kind) ∧ W.cell? ⟨w.heap.size, 1, none⟩ = some (.int .i64 T.num) ∧ W.cell? ⟨w.heap.size, 2, none⟩ = some (.string T.name) ∧ W.cell? ⟨w.heap.size, 3, none⟩ = some (.slice a T.len cap) by
    have e := h.kept hbuf w.heap.size (Nat.le_refl _) (by simp)
    rw [e, e, e, e]; refine ⟨?_, ?_, ?_, ?_⟩ <;> simp [go_sem]))
  have HR := hid_mk (row_on hbuf hb0 hr)
  have HG := hid_mk (gl_on hbuf hb0 hg)
  have HB0 := hid_mk hb0
  have HB := hid_mk hb
  clear HRR hT hok hb hr hf hbuf hg hval hb0
  go_enter Tryz.func95, Tryz.ntmps95
  go_wp2_with (first
    | (go_at_call_of 37 w; refine (HP.out.putAt [⟨#[60, 45]⟩] _ 1 _ (by simp) rfl rfl (by decide) (by have := HB.out; simp [txt] at this ⊢; omega)).mono ?_; rintro e w2 ⟨⟨r, rfl⟩, hp⟩; obtain ⟨b0, b1, b2, b3⟩ := HN.out _ _ _ _ hp; have HP := hid_mk hp; clear hp)
    | (go_at_call 99; refine (HP.out.group HI.out (T.kind == 28) _ HG.out HF.out HR.out HE.out (by have := HB.out; simp [txt] at this ⊢; omega)).mono ?_; rintro e w3 ⟨⟨r, rfl⟩, hp⟩; obtain ⟨b0, b1, b2, b3⟩ := HN.out _ _ _ _ hp; have HP := hid_mk hp; clear hp))
  go_end0
  exact IPst.addsOn HB0.out HP.out (by simp [txt]) _

end Go.Proofs.YtacamenjijlemaaGreatDoor
