import Derived.Test.YteaocammohcgoaaGreatDoorVDA
import Derived.Deep.RegionHeld3
import Derived.Deep.RegionLaw
import Derived.Deep.AppendLies
set_option linter.unusedVariables false
set_option maxHeartbeats 16000000
set_option maxRecDepth 100000
namespace Go.Proofs.YteaocammohcgoaaGreatDoor
open Go.RowKit
variable {G : Prop}
theorem bV0 (h : G := by
 rw [de]; simp [bX, Nd.kind, Nd.num, Nd.name, Nd.len, Nd.kids, cH, aG, aK, cq, h, ByteArray.toList_eq, ByteArray.size]) : G := h
theorem gG {s : ByteArray} (h : aR s = true) : (aq 24 0 s).eOk = true := by
 rw [de]; simp [aq, Nd.kind, Nd.num, Nd.name, Nd.len, cH, h]
theorem fD {s : ByteArray} (h : aR s = true) : s.size ≤ 40 := by
 unfold aR dt at h; simp at h; omega
theorem bm (k n : Int) (s : ByteArray) : (aq k n s).cost = s.size := by simp [aq, Nd.cost, ar]
theorem aJ {k n : Int} {s : ByteArray} (hk : -9223372036854775808 ≤ k ∧ k ≤ 9223372036854775807) (hn : -9223372036854775808 ≤ n ∧ n ≤ 9223372036854775807) (hs : s.size ≤ 9223372036854775807) : (aq k n s).Fine :=
 ⟨hk, hn, hs, Nat.zero_le _, fun i hi => absurd hi (Nat.not_lt_zero i)⟩
theorem ku (w : World) (a b c d : Value) (t : TypeId) : ∀ j u, ([a, b, c, d] : List Value)[j]? = some u → (w.alloc (.cells #[a, b, c, d] t)).cell? ((⟨w.heap.size, 0, none⟩ : Addr).add j) = some u := by
 intro j u h
 match j, h with
 |0, h => obtain rfl := Option.some.inj h; simp [Addr.add]
 |1, h => obtain rfl := Option.some.inj h; simp [Addr.add]
 |2, h => obtain rfl := Option.some.inj h; simp [Addr.add]
 |3, h => obtain rfl := Option.some.inj h; simp [Addr.add]
 |j + 4, h => simp at h
theorem kt (k n : Int) (s : ByteArray) (a : Option Addr) (l c : Nat) : ∀ u ∈ [Value.int .i64 k, .int .i64 n, .string s, .slice a l c], u.oneCell' = true := by
 intro u hu; simp at hu; rcases hu with rfl | rfl | rfl | rfl <;> rfl
theorem uO : (Tryz.prog.info? 25).map (fun i => (i.zero, i.size, i.bytes)) = some (some (.agg #[.int .i64 0, .int .i64 0, .string ⟨#[]⟩, .slice none 0 0]), 4, 56) := by kernel_rfl
def RW (w W : World) (T : Nd) (u : Value) : Prop := Row (w.heap.size + 1) W.heap.size W T u
theorem RW.step {sb A : Nat} {w W W' : World} {T : Nd} {u : Value} (h : RW w W T u) (hd : DW sb A w W) (hk : Kp sb W W') : RW w W' T u :=
 aO (fJ h (by have := hd.low; omega) lr hk) lr hk.size
theorem RW.calm {w W W' : World} {T : Nd} {u : Value} (h : RW w W T u) (hb : Below W.heap.size W W') : RW w W' T u := aO (ah hb lr h) lr hb.size
theorem RW.of_drawn {sb A B C : Nat} {P : Nd → Prop} {w W W' : World} {T : Nd} {u : Value} (hd : DW sb A w W) (h : Drawn sb B P C W T u W') : RW w W' T u := aO h.row hd.size lr
theorem RW.leaf (w W : World) (k n : Int) (s : ByteArray) : RW w W (aq k n s) (.slice none 0 0) := cO _ _ _ _ _ _
def bX (k n : Int) (s : ByteArray) (A : Nd) : Nd := .mk k n s 1 (fun _ => A)
def dR (k n : Int) (s : ByteArray) (A B : Nd) : Nd := .mk k n s 2 (fun i => if i = 0 then A else B)
theorem RW.one {w W V : World} {A : Nd} {u : Value} (hw : w.heap.size + 1 ≤ W.heap.size) (h : RW w W A u) (hb : Below (W.heap.size + 1) (W.alloc (.cells #[.int .i64 A.kind, .int .i64 A.num, .string A.name, u] 25)) V) (k n : Int) (s : ByteArray) :
  RW w V (bX k n s A) (.slice (some ⟨W.heap.size, 0, none⟩) 1 1) := by
 have hz := hb.size
 simp only [World.size_alloc] at hz
 have hA := bO W (.cells #[.int .i64 A.kind, .int .i64 A.num, .string A.name, u] 25)
 have hr := RW.calm h (hA.trans (hb.mono (Nat.le_succ _)))
 have e : ∀ o, V.cell? ⟨W.heap.size, o, none⟩ = (W.alloc (.cells #[.int .i64 A.kind, .int .i64 A.num, .string A.name, u] 25)).cell? ⟨W.heap.size, o, none⟩ := fun o => hb.cell (p := ⟨W.heap.size, o, none⟩) (by show W.heap.size < W.heap.size + 1; omega)
 refine gA hw (by omega) lr (by omega) fun i hi => ?_
 obtain rfl : i = 0 := by omega
 refine ⟨u, ?_, ?_, ?_, ?_, hr⟩
 ·rw [e]; simp [go_sem]
 ·rw [e]; simp [go_sem]
 ·rw [e]; simp [go_sem]
 ·rw [e]; simp [go_sem]
theorem RW.two {w W V : World} {A B : Nd} {u v : Value} (hw : w.heap.size + 1 ≤ W.heap.size) (h : RW w W A u) (h' : RW w W B v) (hb : Below (W.heap.size + 1) (W.alloc (.cells #[.int .i64 A.kind, .int .i64 A.num, .string A.name, u, .int .i64 B.kind, .int .i64 B.num, .string B.name, v] 25)) V) (k n : Int) (s : ByteArray) :
  RW w V (dR k n s A B) (.slice (some ⟨W.heap.size, 0, none⟩) 2 2) := by
 have hz := hb.size
 simp only [World.size_alloc] at hz
 have hA := bO W (.cells #[.int .i64 A.kind, .int .i64 A.num, .string A.name, u, .int .i64 B.kind, .int .i64 B.num, .string B.name, v] 25)
 have hr := RW.calm h (hA.trans (hb.mono (Nat.le_succ _)))
 have Iw := RW.calm h' (hA.trans (hb.mono (Nat.le_succ _)))
 have e : ∀ o, V.cell? ⟨W.heap.size, o, none⟩ = (W.alloc (.cells #[.int .i64 A.kind, .int .i64 A.num, .string A.name, u, .int .i64 B.kind, .int .i64 B.num, .string B.name, v] 25)).cell? ⟨W.heap.size, o, none⟩ := fun o => hb.cell (p := ⟨W.heap.size, o, none⟩) (by show W.heap.size < W.heap.size + 1; omega)
 refine gA hw (by omega) lr (by omega) fun i hi => ?_
 have : i = 0 ∨ i = 1 := by omega
 rcases this with rfl | rfl
 ·refine ⟨u, ?_, ?_, ?_, ?_, hr⟩ <;> rw [e] <;> simp [go_sem]
 ·refine ⟨v, ?_, ?_, ?_, ?_, Iw⟩ <;> rw [e] <;> simp [go_sem]
theorem b9 (k n : Int) (s : ByteArray) (A : Nd) : (bX k n s A).cost = s.size + (1 + A.cost) := by simp [bX, Nd.cost, ar]
theorem eZ (k n : Int) (s : ByteArray) (A B : Nd) : (dR k n s A B).cost = s.size + (2 + (A.cost + B.cost)) := by simp [dR, Nd.cost, ar]
theorem bB {k n : Int} {s : ByteArray} {A : Nd} (hk : -9223372036854775808 ≤ k ∧ k ≤ 9223372036854775807) (hn : -9223372036854775808 ≤ n ∧ n ≤ 9223372036854775807) (hs : s.size ≤ 9223372036854775807) (hA : A.Fine) : (bX k n s A).Fine := ⟨hk, hn, hs, by omega, fun _ _ => hA⟩
theorem eY {k n : Int} {s : ByteArray} {A B : Nd} (hk : -9223372036854775808 ≤ k ∧ k ≤ 9223372036854775807) (hn : -9223372036854775808 ≤ n ∧ n ≤ 9223372036854775807) (hs : s.size ≤ 9223372036854775807) (hA : A.Fine) (hB : B.Fine) : (dR k n s A B).Fine := ⟨hk, hn, hs, by omega, fun i _ => by show (if i = 0 then A else B).Fine; split; exact hA; exact hB⟩
theorem iN {n : Int} (h : 0 ≤ n ∧ n ≤ 999999999999999999) : (aq 22 n ⟨#[]⟩).eOk = true := by
 rw [de]; simp [aq, Nd.kind, Nd.num, Nd.name, Nd.len, cH, ao, h]
theorem ny {n : Int} (h : n = 0 ∨ n = 1) : (aq 23 n ⟨#[]⟩).eOk = true := by
 rw [de]; rcases h with rfl | rfl <;> simp [aq, Nd.kind, Nd.num, Nd.name, Nd.len, cH, ao]
theorem BJ : (aq 26 0 ⟨#[]⟩).eOk = true := by
 rw [de]; simp [aq, Nd.kind, Nd.num, Nd.name, Nd.len, cH, ao, aG]
theorem BH {A : Nd} (h : A.eOk = true) : (bX 26 0 ⟨#[]⟩ A).eOk = true := by
 rw [de]; simp [bX, Nd.kind, Nd.num, Nd.name, Nd.len, Nd.kids, cH, ao, aG, h]
theorem Ji {A : Nd} (h : A.eOk = true) : (bX 27 0 ⟨#[45]⟩ A).eOk = true := by
 exact bV0
theorem Jh {A : Nd} (h : A.eOk = true) : (bX 27 0 ⟨#[33]⟩ A).eOk = true := by
 exact bV0
theorem vz {A : Nd} (h : A.eOk = true) : (bX 29 0 ⟨#[]⟩ A).eOk = true := by
 rw [de]; simp [bX, Nd.kind, Nd.num, Nd.name, Nd.len, Nd.kids, cH, ao, aG, aK, cq, h, ByteArray.size]
theorem nA {s : ByteArray} {A B : Nd} (hs : 0 < iU s) (h : A.eOk = true) (h' : B.eOk = true) : (dR 28 0 s A B).eOk = true := by
 rw [de]; simp [dR, Nd.kind, Nd.num, Nd.name, Nd.len, Nd.kids, cH, aG, aK, cq, h, h', hs, ByteArray.size]
theorem oe {s : ByteArray} {A B : Nd} (hs : aR s = true) (h : A.eOk = true) (h' : B.eOk = true) : (dR 25 0 s A B).eOk = true := by
 rw [de]; simp [dR, Nd.kind, Nd.num, Nd.name, Nd.len, Nd.kids, cH, aG, h, h', hs]
theorem ld {w : World} {g o : Nat} {v : Value} (h : w.cell? ⟨g, o, none⟩ = some v) : ∀ ob : Obj, (w.alloc ob).cell? ⟨g, o, none⟩ = some v := fun ob =>
 ((bO w ob).cell (p := ⟨g, o, none⟩) (iV h)).trans h
theorem N1 (W : World) : 1 ≤ (Question.appendCap 1 0 25).cut (W.tape W.drawn (Question.appendCap 1 0 25)) ∧ (Question.appendCap 1 0 25).cut (W.tape W.drawn (Question.appendCap 1 0 25)) ≤ 9223372036854775807 := by
 have h1 := grownCap_ge W 1 0 25
 have h2 := grownCap_le_maxLen W 1 0 25 (by unfold maxLen; omega)
 unfold grownCap at h1 h2
 unfold maxLen at h2
 exact ⟨h1, h2⟩
theorem DW.put {sb A : Nat} {w W : World} (h : DW sb A w W) (b o : Nat) (v : Value) (hb : w.heap.size + 1 ≤ b) : DW sb A w (W.setCell ⟨b, o, none⟩ v) := by
 have hl := h.low
 have he : ∀ k, k ≠ b → (W.setCell ⟨b, o, none⟩ v).heap[k]? = W.heap[k]? := fun k hk => Below.heap_setCell _ _ _ _ (by show k ≠ b; exact hk)
 refine ⟨?_, ⟨h.kp.os, h.kp.tape, h.kp.output, by simpa [World.setCell] using h.kp.size, fun k hk hn => ?_⟩, hl⟩
 ·obtain ⟨ca, cn, cc, a, s, h1, ha⟩ := h.src
  refine ⟨ca, cn, cc, a, s, ⟨(he sb (by omega)).trans h1.blk, h1.low, h1.few, ?_⟩, ha⟩
  rcases h1.row with e | ⟨g, off, e, hg, hh⟩
  ·exact .inl e
  ·refine .inr ⟨g, off, e, hg, fun i hi => ?_⟩
   obtain ⟨x, dH, ft⟩ := hh i hi
   exact ⟨x, dH, (World.cell?_of_block (a := ⟨g, off + i, none⟩) (he g (by omega))).trans ft⟩
 ·rw [World.size_alloc] at hk
  rw [he k (by omega)]
  exact h.kp.block k (by rw [World.size_alloc]; exact hk) hn
def apW (W : World) (b : Nat) (k n : Int) (s : ByteArray) (u : Value) (cap : Nat) : World :=
 (((W.alloc (Obj.cells #[.int .i64 k, .int .i64 n, .string s, u] 25)).alloc (Obj.cells (#[.int .i64 k, .int .i64 n, .string s, u] ++ Builtin.zeroCells #[.int .i64 0, .int .i64 0, .string ⟨#[]⟩, .slice none 0 0] (cap - 1)) 25)).setCell ⟨b, 3, none⟩ (.slice (some ⟨W.heap.size + 1, 0, none⟩) 1 cap)).drew
structure Ap (sb A : Nat) (w X : World) (b : Nat) (k0 n0 : Int) (s0 : ByteArray) (K : Nd) (v : Value) : Prop where
 dw : DW sb A w X
 row : RW w X (bX k0 n0 s0 K) v
 c0 : X.cell? ⟨b, 0, none⟩ = some (.int .i64 k0)
 c1 : X.cell? ⟨b, 1, none⟩ = some (.int .i64 n0)
 c2 : X.cell? ⟨b, 2, none⟩ = some (.string s0)
 c3 : X.cell? ⟨b, 3, none⟩ = some v
def EXC (typ deep : Int) (C K : Nat) : Prop := ∀ (sb A n : Nat) (v : Value) (w : World), A + K ≤ 1099511627776 → Src sb A w → Scp sb w v n →
 Calls Tryz.prog 85 #[.pointer (some ⟨sb, 0, none⟩), v, .int .i64 typ, .int .i64 deep] w fun e w' => ∃ T u, e = .returned (T.val u) ∧ Drawn sb (A + K) (fun T => T.eOk = true) C w T u w'
theorem EXC.more {typ deep : Int} {C K C' K' : Nat} (h : EXC typ deep C K) (hC : C ≤ C') (hK : K ≤ K') : EXC typ deep C' K' := fun sb A n v w hA hs hv =>
 (h sb A n v w (by omega) hs hv).mono fun e w' ⟨T, u, he, d⟩ => ⟨T, u, he, d.row, d.fine, d.ok, Nat.le_trans d.cost hC, d.src.mono (by omega), d.kp⟩
theorem ie (P : ByteArray → Prop) (W : World) (l : List ByteArray) (t : TypeId) (hP : ∀ s ∈ l, P s) (i : Nat) (hi : i < l.length) : ∃ s, P s ∧ (W.alloc (.cells (l.map Value.string).toArray t)).cell? ⟨W.heap.size, 0 + i, none⟩ = some (.string s) := by
 refine ⟨l[i], hP _ (List.getElem_mem hi), ?_⟩
 rw [cell_of_row _ _ _ _ _ (0, 0) (heap_alloc_new W _)]
 simp [hi]
theorem be {lo hi : Nat} {w : World} {T : Nd} {v : Value} (h : Row lo hi w T v) : ∃ a cap, v = .slice a T.len cap := by
 obtain ⟨a, cap, h, _⟩ := aH.1 h; exact ⟨a, cap, h⟩
def ys (s : ByteArray) : Prop := 0 < iU s ∧ s.size ≤ 2
end Go.Proofs.YteaocammohcgoaaGreatDoor
