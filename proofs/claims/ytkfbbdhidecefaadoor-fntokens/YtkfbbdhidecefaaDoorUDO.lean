import Derived.Test.YtkfbbdhidecefaaDoorUDB
import Derived.Deep.Upon
import Derived.Test.YtkfbbdhidecefaaDoorUD0
set_option linter.unusedVariables false
set_option maxHeartbeats 16000000
set_option maxRecDepth 100000
namespace Go.Proofs.YtkfbbdhidecefaaDoor
open Go.RowKit
theorem xZ {s : ByteArray} (h : ck s = true) : az s = false := by
 have h1 : 1 ≤ s.size := by unfold ck iy at h; simp at h; omega
 unfold az
 rw [ByteArray.toList_eq]
 cases hs : s.data.toList with
 |nil =>
  exfalso
  have h2 : s.data.size = 0 := by rw [← Array.length_toList, hs]; rfl
  have h3 : s.size = 0 := h2
  omega
 |cons a l => rfl
theorem qb {k : Int} {s : ByteArray} {A : Nd} (hk : k = 5 ∨ k = 6) (hs : ck s = true) (h : A.eOk = true) : (cm k 0 s A).sOk = true := by
 have := xZ hs
 rw [aG]; rcases hk with rfl | rfl <;> simp [cm, Nd.kind, Nd.num, Nd.name, Nd.len, Nd.kids, aJ, cM, aE, fU, h, hs, this, ByteArray.size]
theorem zb {n : Int} {s : ByteArray} (hn : n = 1 ∨ n = -1) (hs : ck s = true) : (al 7 n s).sOk = true := by
 have := xZ hs
 rw [aG]; rcases hn with rfl | rfl <;> simp [al, Nd.kind, Nd.num, Nd.name, Nd.len, aJ, hs, this]
theorem F7 {A B : Nd} (h : A.eOk = true) (h' : B.eOk = true) : (gO 8 0 ⟨#[]⟩ A B).sOk = true := by
 rw [aG]; simp [gO, Nd.kind, Nd.num, Nd.name, Nd.len, Nd.kids, aJ, cM, aE, fU, az, h, h', ByteArray.size]
theorem xV {k : Int} {A : Nd} (hk : k = 13 ∨ k = 14) (hA : A.kind = 25) (h : A.eOk = true) : (cm k 0 ⟨#[]⟩ A).sOk = true := by
 rw [aG]; rcases hk with rfl | rfl <;> simp [cm, Nd.kind, Nd.num, Nd.name, Nd.len, Nd.kids, Nd.kk, aJ, cM, aE, fU, az, h, ByteArray.size] <;> exact decide_eq_true hA
theorem qc {k : Int} {A : Nd} (hk : k = 19 ∨ k = 20 ∨ k = 21) (h : A.eOk = true) : (cm k 0 ⟨#[]⟩ A).sOk = true := by
 rw [aG]; rcases hk with rfl | rfl | rfl <;> simp [cm, Nd.kind, Nd.num, Nd.name, Nd.len, Nd.kids, aJ, cM, aE, fU, az, h, ByteArray.size]
theorem Cj {k : Int} (hk : k = 17 ∨ k = 18) : (al k 0 ⟨#[]⟩).sOk = true := by
 rw [aG]; rcases hk with rfl | rfl <;> simp [al, Nd.kind, Nd.num, Nd.name, Nd.len, aJ, az]
theorem J5 {A B : Nd} (h : A.eOk = true) (hB : B.kind = 4) (h' : B.sOk = true) : (gO 11 0 ⟨#[]⟩ A B).sOk = true := by
 rw [aG]; simp [gO, Nd.kind, Nd.num, Nd.name, Nd.len, Nd.kids, Nd.kk, aJ, cM, aE, fU, az, h, h', ByteArray.size]; exact hB
theorem J7 {A B : Nd} (h : A.sOk = true) (h' : B.sOk = true) : (gO 4 0 ⟨#[]⟩ A B).sOk = true := by
 rw [aG]; simp [gO, Nd.kind, Nd.num, Nd.name, Nd.len, Nd.kids, aJ, cM, az, h, h']
theorem xw {s : ByteArray} {A : Nd} (hs : ck s = true) (h : A.eOk = true) : (cm 25 0 s A).eOk = true := by
 rw [b8]; simp [cm, Nd.kind, Nd.num, Nd.name, Nd.len, Nd.kids, cq, cM, h, hs]
def Ao (s : ByteArray) : Prop := ck s = true ∧ s.size ≤ 40
theorem bG {sb b : Nat} {o : Obj} {W W' : World} (h : W.heap[b]? = some o) (fE : b ≠ sb) (hk : Kp sb W W') : W'.heap[b]? = some o := (hk.block b (Array.getElem?_eq_some_iff.1 h).1 fE).trans h
theorem aZ {b : Nat} {o : Obj} {W W' : World} (h : W.heap[b]? = some o) (hb : Below W.heap.size W W') : W'.heap[b]? = some o := (hb.block b (Array.getElem?_eq_some_iff.1 h).1).trans h
def lV (k n : Int) (s : ByteArray) (a : Option Addr) (l c : Nat) : Obj := .cells #[.int .i64 k, .int .i64 n, .string s, .slice a l c] 27 (0, 0)
theorem aw {W : World} {b : Nat} {k n : Int} {s : ByteArray} {a : Option Addr} {l c : Nat} (h : W.heap[b]? = some (lV k n s a l c)) :
  W.cell? ⟨b, 0, none⟩ = some (.int .i64 k) ∧ W.cell? ⟨b, 1, none⟩ = some (.int .i64 n) ∧ W.cell? ⟨b, 2, none⟩ = some (.string s) ∧ W.cell? ⟨b, 3, none⟩ = some (.slice a l c) ∧ ∀ o, W.frozen? ⟨b, o, none⟩ = false := by
 unfold lV at h
 have hc : ∀ o, W.cell? ⟨b, o, none⟩ = (#[Value.int .i64 k, .int .i64 n, .string s, .slice a l c])[o]? := fun o => cell_of_row _ _ _ _ _ (0, 0) h
 exact ⟨by rw [hc]; rfl, by rw [hc]; rfl, by rw [hc]; rfl, by rw [hc]; rfl, fun o => frozen_of_row _ _ _ _ _ h⟩
theorem tP {sb b o : Nat} {v : Value} {w w' : World} (h : w.cell? ⟨b, o, none⟩ = some v) (hk : Kp sb w w') (fE : ¬ b = sb) : w'.cell? ⟨b, o, none⟩ = some v :=
 (World.cell?_of_block (a := ⟨b, o, none⟩) (hk.block b (qR h) fE)).trans h
theorem kp2 {sb : Nat} {W V : World} {o o' : Obj} (hk : Kp sb ((W.alloc o).alloc o').drew V) : Kp sb W V :=
 (b7 (((bO W o).alloc (by simp) o').drew) (fun k => k = sb)).trans hk (fun _ _ h => h)
theorem Cl {w V : World} {A : Nd} {u : Value} {g : Nat} (hg : w.heap.size + 1 ≤ g) (hb : V.heap[g]? = some (.cells #[.int .i64 A.kind, .int .i64 A.num, .string A.name, u] 27 (0, 0))) (h : RW w V A u) (k n : Int) (s : ByteArray) :
  RW w V (cm k n s A) (.slice (some ⟨g, 0, none⟩) 1 1) := by
 have hl := (Array.getElem?_eq_some_iff.1 hb).1
 have hc : ∀ o, V.cell? ⟨g, o, none⟩ = (#[Value.int .i64 A.kind, .int .i64 A.num, .string A.name, u])[o]? := fun o => cell_of_row _ _ _ _ _ (0, 0) hb
 refine my hg hl lr (by omega) fun i hi => ?_
 obtain rfl : i = 0 := by omega
 exact ⟨u, by rw [hc]; rfl, by rw [hc]; rfl, by rw [hc]; rfl, by rw [hc]; rfl, h⟩
def VJ (deep : Int) (C K M : Nat) : Prop := ∀ (sb A n : Nat) (v : Value) (loops : Bool) (w : World), A + K ≤ 1099511627776 → n + M ≤ 1000 → Src sb A w → Scp sb w v n →
 Calls Tryd.prog 47 #[.pointer (some ⟨sb, 0, none⟩), v, .int .i64 deep, .bool loops] w fun e w' => ∃ T u, e = .returned (T.val u) ∧ Drawn sb (A + K) (fun T => T.sOk = true) C w T u w'
def LW (deep : Int) (C K M : Nat) : Prop := ∀ (sb A n m : Nat) (v : Value) (loops : Bool) (w : World), A + m * K + 10 ≤ 1099511627776 → n + m + M ≤ 1000 → Src sb A w → Scp sb w v n →
 Calls Tryd.prog 27 #[.pointer (some ⟨sb, 0, none⟩), v, .int .i64 deep, .int .i64 m, .bool loops] w fun e w' => ∃ T u, e = .returned (T.val u) ∧ Drawn sb (A + m * K + 10) (fun T => T.kind = 4 ∧ T.sOk = true ∧ T.len = m) (m * C) w T u w'
def SLC (deep : Int) (C K M : Nat) : Prop := ∀ (sb A n : Nat) (v : Value) (loops : Bool) (w : World), A + K ≤ 1099511627776 → n + M ≤ 1000 → Src sb A w → Scp sb w v n →
 Calls Tryd.prog 71 #[.pointer (some ⟨sb, 0, none⟩), v, .int .i64 deep, .bool loops] w fun e w' => ∃ T u, e = .returned (T.val u) ∧ Drawn sb (A + K) (fun T => T.sOk = true) C w T u w'
theorem DW.any {sb A : Nat} {w W W' : World} (h : DW sb A w W) (e1 : W'.os = W.os) (e2 : W'.tape = W.tape) (e3 : W'.output = W.output) (hz : W.heap.size ≤ W'.heap.size) (hb : ∀ k, k ≤ w.heap.size → W'.heap[k]? = W.heap[k]?) : DW sb A w W' := by
 have hl := h.low
 refine ⟨?_, ⟨e1.trans h.kp.os, e2.trans h.kp.tape, e3.trans h.kp.output, Nat.le_trans h.kp.size hz, fun k hk hn => ?_⟩, hl⟩
 ·obtain ⟨ca, cn, cc, a, s, h1, ha⟩ := h.src
  refine ⟨ca, cn, cc, a, s, ⟨(hb sb (by omega)).trans h1.blk, h1.low, h1.few, ?_⟩, ha⟩
  rcases h1.row with e | ⟨g, off, e, hg, hh⟩
  ·exact .inl e
  ·refine .inr ⟨g, off, e, hg, fun i hi => ?_⟩
   obtain ⟨x, Ct, Bi⟩ := hh i hi
   exact ⟨x, Ct, (World.cell?_of_block (a := ⟨g, off + i, none⟩) (hb g (by omega))).trans Bi⟩
 ·rw [World.size_alloc] at hk
  exact (hb k (by omega)).trans (h.kp.block k (by rw [World.size_alloc]; exact hk) hn)
theorem DW.grown {sb A : Nat} {w W W' : World} {row : Option Nat} (h : DW sb A w W) (hg : W.grownBy W' row) (hr : ∀ k, row = some k → w.heap.size < k) : DW sb A w W' :=
 h.any hg.os hg.tape hg.output hg.size (fun k hk => hg.block k (by have := h.size; omega) (fun e => by have := hr k e.symm; omega))
def fL (Ts : Nat → Nd) (us : Nat → Value) : Nat → List Value
 |0 => []
 |j + 1 => fL Ts us j ++ [.int .i64 (Ts j).kind, .int .i64 (Ts j).num, .string (Ts j).name, us j]
theorem mX (Ts : Nat → Nd) (us : Nat → Value) : ∀ j, (fL Ts us j).length = j * 4
 |0 => rfl
 |j + 1 => by simp only [fL, List.length_append, mX Ts us j, List.length_cons, List.length_nil]; omega
theorem pI (Ts : Nat → Nd) (us : Nat → Value) : ∀ {n i : Nat}, i < n → (fL Ts us n)[i * 4]? = some (.int .i64 (Ts i).kind) ∧ (fL Ts us n)[i * 4 + 1]? = some (.int .i64 (Ts i).num) ∧ (fL Ts us n)[i * 4 + 2]? = some (.string (Ts i).name) ∧ (fL Ts us n)[i * 4 + 3]? = some (us i)
 |n + 1, i, h => by
  have hl := mX Ts us n
  simp only [fL]
  by_cases e : i < n
  ·obtain ⟨h0, h1, h2, h3⟩ := pI Ts us e
   rw [List.getElem?_append_left (by omega), List.getElem?_append_left (by omega), List.getElem?_append_left (by omega), List.getElem?_append_left (by omega)]
   exact ⟨h0, h1, h2, h3⟩
  ·obtain rfl : i = n := by omega
   rw [List.getElem?_append_right (by omega), List.getElem?_append_right (by omega), List.getElem?_append_right (by omega), List.getElem?_append_right (by omega), hl]
   refine ⟨?_, ?_, ?_, ?_⟩
   ·rw [show i * 4 - i * 4 = 0 by omega]; rfl
   ·rw [show i * 4 + 1 - i * 4 = 1 by omega]; rfl
   ·rw [show i * 4 + 2 - i * 4 = 2 by omega]; rfl
   ·rw [show i * 4 + 3 - i * 4 = 3 by omega]; rfl
def qq {α : Type} (f : Nat → α) (j : Nat) (x : α) : Nat → α := fun i => if i = j then x else f i
theorem fP {α : Type} (f : Nat → α) (j : Nat) (x : α) : qq f j x j = x := if_pos rfl
theorem gy {α : Type} (f : Nat → α) {j i : Nat} (x : α) (h : i ≠ j) : qq f j x i = f i := if_neg h
theorem xo (Ts : Nat → Nd) (us : Nat → Value) (T : Nd) (u : Value) : ∀ {j k : Nat}, j ≤ k → fL (qq Ts k T) (qq us k u) j = fL Ts us j
 |0, _, _ => rfl
 |j + 1, k, h => by simp only [fL]; rw [xo Ts us T u (show j ≤ k by omega), gy _ _ (show j ≠ k by omega), gy _ _ (show j ≠ k by omega)]
theorem BE (Ts : Nat → Nd) (us : Nat → Value) (T : Nd) (u : Value) (j : Nat) : fL (qq Ts j T) (qq us j u) (j + 1) = fL Ts us j ++ [.int .i64 T.kind, .int .i64 T.num, .string T.name, u] := by
 simp only [fL]
 rw [xo Ts us T u (Nat.le_refl j), fP, fP]
structure Gw (B : Nat) (Ts : Nat → Nd) (us : Nat → Value) (s e : Nat → Nat) (j : Nat) (v : Value) (w : World) : Prop where
 own : w.ownsRow B 27 4 v j (fL Ts us j)
 kid : ∀ i, i < j → Row (s i) (e i) w (Ts i) (us i) ∧ B ≤ s i ∧ s i ≤ e i ∧ e i ≤ w.heap.size
 apart : ∀ i, i < j → ∀ g, v.ownBlock = some g → g < s i ∨ e i ≤ g
theorem Gw.start {B : Nat} {v : Value} {w : World} (Ts : Nat → Nd) (us : Nat → Value) (s e : Nat → Nat) (h : w.ownsRow B 27 4 v 0 []) : Gw B Ts us s e 0 v w :=
 ⟨h, fun i hi => absurd hi (Nat.not_lt_zero _), fun i hi => absurd hi (Nat.not_lt_zero _)⟩
theorem Gw.keep {B j : Nat} {Ts : Nat → Nd} {us : Nat → Value} {s e : Nat → Nat} {v : Value} {w w' : World} (h : Gw B Ts us s e j v w) (hz : w.heap.size ≤ w'.heap.size) (hk : ∀ k, k < w.heap.size → B ≤ k → (v.ownBlock = some k ∨ ∃ i, i < j ∧ s i ≤ k ∧ k < e i) → w'.heap[k]? = w.heap[k]?) : Gw B Ts us s e j v w' := by
 refine ⟨ry h.own fun k qW => hk k (h.own.lt k qW).2 (h.own.lt k qW).1 (.inl qW), fun i hi => ?_, h.apart⟩
 obtain ⟨k1, k2, k3, k4⟩ := h.kid i hi
 exact ⟨gn lr lr (fun g o h1 h2 => World.cell?_of_block (a := ⟨g, o, none⟩) (hk g (by omega) (by omega) (.inr ⟨i, hi, h1, h2⟩))) k1, k2, k3, by omega⟩
theorem Gw.kp {sb B j : Nat} {Ts : Nat → Nd} {us : Nat → Value} {s e : Nat → Nat} {v : Value} {w w' : World} (h : Gw B Ts us s e j v w) (hs : sb < B) (hk : Kp sb w w') : Gw B Ts us s e j v w' :=
 h.keep hk.size fun k h1 h2 _ => hk.block k h1 (by omega)
theorem Gw.calm {B j : Nat} {Ts : Nat → Nd} {us : Nat → Value} {s e : Nat → Nat} {v : Value} {w w' : World} (h : Gw B Ts us s e j v w) (hb : Below w.heap.size w w') : Gw B Ts us s e j v w' :=
 h.keep hb.size fun k h1 _ _ => hb.block k h1
theorem Gw.put {B j b o : Nat} {x : Value} {Ts : Nat → Nd} {us : Nat → Value} {s e : Nat → Nat} {v : Value} {w : World} (h : Gw B Ts us s e j v w) (h1 : v.ownBlock ≠ some b) (h2 : ∀ i, i < j → b < s i ∨ e i ≤ b) : Gw B Ts us s e j v (w.setCell ⟨b, o, none⟩ x) :=
  h.keep (by simp [World.setCell]) fun k _ _ hh => Below.heap_setCell _ _ _ _ (by
    show k ≠ b
    rintro rfl
    rcases hh with hh | ⟨i, hi, a, c⟩
    · exact h1 hh
    · have := h2 i hi; omega)
theorem Gw.other {B j : Nat} {Ts : Nat → Nd} {us : Nat → Value} {s e : Nat → Nat} {v : Value} {w w' : World} {row : Option Nat} (h : Gw B Ts us s e j v w) (hg : w.grownBy w' row) (h1 : ∀ k, row = some k → v.ownBlock ≠ some k ∧ ∀ i, i < j → k < s i ∨ e i ≤ k) : Gw B Ts us s e j v w' :=
  h.keep hg.size fun k hk _ hh => hg.block k hk (fun er => by
    obtain ⟨a, b⟩ := h1 k er.symm
    rcases hh with hh | ⟨i, hi, c, d⟩
    · exact a hh
    · have := b i hi; omega)
theorem Gw.step {B j lo hi : Nat} {Ts : Nat → Nd} {us : Nat → Value} {s e : Nat → Nat} {v v' u : Value} {T : Nd} {w2 w3 : World} (h : Gw B Ts us s e j v w2) (ht : Row lo hi w2 T u) (hl : B ≤ lo) (Kw : lo ≤ hi) (hh : hi ≤ w2.heap.size) (bB : ∀ g, v.ownBlock = some g → g < lo ∨ hi ≤ g)
  (bK : w3.ownsRow B 27 4 v' (j + 1) (fL Ts us j ++ [.int .i64 T.kind, .int .i64 T.num, .string T.name, u])) (aD : w2.grownBy w3 v.ownBlock) (iU : v'.ownBlock = v.ownBlock ∨ ∃ k, v'.ownBlock = some k ∧ w2.heap.size ≤ k) :
  Gw B (qq Ts j T) (qq us j u) (qq s j lo) (qq e j hi) (j + 1) v' w3 := by
 have hz := aD.size
 refine ⟨by rw [BE]; exact bK, fun i nx => ?_, fun i nx g hg => ?_⟩
 ·by_cases oA : i = j
  ·subst oA
   rw [fP, fP, fP, fP]
   refine ⟨gn lr lr (fun g o h1 h2 => World.cell?_of_block (a := ⟨g, o, none⟩) (aD.block g (by omega) (fun er => by have := bB g er.symm; omega))) ht, hl, Kw, by omega⟩
  ·rw [gy _ _ oA, gy _ _ oA, gy _ _ oA, gy _ _ oA]
   obtain ⟨k1, k2, k3, k4⟩ := h.kid i (by omega)
   exact ⟨gn lr lr (fun g o h1 h2 => World.cell?_of_block (a := ⟨g, o, none⟩) (aD.block g (by omega) (fun er => by have := h.apart i (by omega) g er.symm; omega))) k1, k2, k3, by omega⟩
 ·by_cases oA : i = j
  ·subst oA
   rw [fP, fP]
   rcases iU with Ek | ⟨k, hk, P6⟩
   ·exact bB g (Ek ▸ hg)
   ·rw [hk] at hg; obtain rfl := Option.some.inj hg; omega
  ·rw [gy _ _ oA, gy _ _ oA]
   obtain ⟨k1, k2, k3, k4⟩ := h.kid i (by omega)
   rcases iU with Ek | ⟨k, hk, P6⟩
   ·exact h.apart i (by omega) g (Ek ▸ hg)
   ·rw [hk] at hg; obtain rfl := Option.some.inj hg; omega
theorem Gw.shape {B j : Nat} {Ts : Nat → Nd} {us : Nat → Value} {s e : Nat → Nat} {v : Value} {w : World} (h : Gw B Ts us s e j v w) : ∃ a c, v = .slice a j c := by
 rcases h.own.2 with ⟨rfl, e0⟩ | ⟨g, cap, cur, rfl, _⟩
 ·exact ⟨none, 0, by rw [e0]⟩
 ·exact ⟨_, _, rfl⟩
theorem Gw.row {B j lo : Nat} {Ts : Nat → Nd} {us : Nat → Value} {s e : Nat → Nat} {v : Value} {w : World} (h : Gw B Ts us s e j v w) (lh : lo ≤ B) (k n : Int) (nm : ByteArray) : Row lo w.heap.size w (.mk k n nm j Ts) v := by
 have bK := h.own
 rcases h.own.2 with ⟨rfl, e0⟩ | ⟨g, cap, cur, rfl, h2, h3, h4, h5, h6⟩
 ·exact ar.2 ⟨none, 0, by rw [show (Nd.mk k n nm j Ts).len = j from rfl, e0], by show j ≤ 0 ∧ _; omega, .inl e0⟩
 ·unfold maxLen at h5
  refine ar.2 ⟨_, cap, rfl, ⟨h4, by omega⟩, .inr ⟨g, 0, rfl, by omega, (Array.getElem?_eq_some_iff.1 h3).1, fun i hi => ?_⟩⟩
  obtain ⟨k1, k2, k3, k4⟩ := h.kid i hi
  obtain ⟨f0, f1, f2, f3⟩ := pI Ts us (show i < j from hi)
  have hc := fun o (u : Value) (hu : (fL Ts us j)[o]? = some u) => (pV g o ▸ bK.cells (g := g) rfl o u hu : w.cell? ⟨g, o, none⟩ = some u)
  rw [Nat.zero_add]
  exact ⟨us i, hc _ _ f0, hc _ _ f1, hc _ _ f2, hc _ _ f3, cD k1 (by omega) k4⟩
def iJ (f : Nat → ByteArray × Int × Int) : Nat → List Value
 |0 => []
 |j + 1 => iJ f j ++ [.string (f j).1, .int .i64 (f j).2.1, .int .i64 (f j).2.2]
theorem oU (f : Nat → ByteArray × Int × Int) : ∀ j, (iJ f j).length = j * 3
 |0 => rfl
 |j + 1 => by simp only [iJ, List.length_append, oU f j, List.length_cons, List.length_nil]; omega
theorem sN (f : Nat → ByteArray × Int × Int) : ∀ {n i : Nat}, i < n → (iJ f n)[i * 3]? = some (.string (f i).1) ∧ (iJ f n)[i * 3 + 1]? = some (.int .i64 (f i).2.1) ∧ (iJ f n)[i * 3 + 2]? = some (.int .i64 (f i).2.2)
 |n + 1, i, h => by
  have hl := oU f n
  simp only [iJ]
  by_cases e : i < n
  ·obtain ⟨h0, h1, h2⟩ := sN f e
   rw [List.getElem?_append_left (by omega), List.getElem?_append_left (by omega), List.getElem?_append_left (by omega)]
   exact ⟨h0, h1, h2⟩
  ·obtain rfl : i = n := by omega
   rw [List.getElem?_append_right (by omega), List.getElem?_append_right (by omega), List.getElem?_append_right (by omega), hl]
   refine ⟨?_, ?_, ?_⟩
   ·rw [show i * 3 - i * 3 = 0 by omega]; rfl
   ·rw [show i * 3 + 1 - i * 3 = 1 by omega]; rfl
   ·rw [show i * 3 + 2 - i * 3 = 2 by omega]; rfl
theorem vj (f : Nat → ByteArray × Int × Int) : ∀ {n j : Nat} {u : Value}, (iJ f n)[j]? = some u → ∃ i, i < n ∧ ((j = i * 3 ∧ u = .string (f i).1) ∨ (j = i * 3 + 1 ∧ u = .int .i64 (f i).2.1) ∨ (j = i * 3 + 2 ∧ u = .int .i64 (f i).2.2)) := by
 intro n j u h
 have hl := oU f n
 have hj : j < n * 3 := by rw [← hl]; exact (List.getElem?_eq_some_iff.1 h).1
 refine ⟨j / 3, by omega, ?_⟩
 obtain ⟨h0, h1, h2⟩ := sN f (show j / 3 < n by omega)
 rcases (by omega : j = j / 3 * 3 ∨ j = j / 3 * 3 + 1 ∨ j = j / 3 * 3 + 2) with e | e | e
 ·left; rw [← e, h] at h0; exact ⟨e, Option.some.inj h0⟩
 ·right; left; rw [← e, h] at h1; exact ⟨e, Option.some.inj h1⟩
 ·right; right; rw [← e, h] at h2; exact ⟨e, Option.some.inj h2⟩
def Sv (B n : Nat) (v : Value) (w : World) : Prop := ∃ f : Nat → ByteArray × Int × Int, w.ownsRow B 83 3 v n (iJ f n) ∧ ∀ i, i < n → ck (f i).1 = true
theorem Sv.lt {B n : Nat} {v : Value} {w : World} (h : Sv B n v w) : ∀ k, v.ownBlock = some k → B ≤ k ∧ k < w.heap.size := by obtain ⟨f, h, _⟩ := h; exact h.lt
theorem Sv.keep {B n : Nat} {v : Value} {w w' : World} (h : Sv B n v w) (hk : ∀ k, v.ownBlock = some k → w'.heap[k]? = w.heap[k]?) : Sv B n v w' := by
 obtain ⟨f, h1, h2⟩ := h; exact ⟨f, ry h1 hk, h2⟩
theorem Sv.kp {sb B n : Nat} {v : Value} {w w' : World} (h : Sv B n v w) (hs : sb < B) (hk : Kp sb w w') : Sv B n v w' := h.keep fun k h1 => hk.block k (h.lt k h1).2 (by have := (h.lt k h1).1; omega)
theorem Sv.calm {B n : Nat} {v : Value} {w w' : World} (h : Sv B n v w) (hb : Below w.heap.size w w') : Sv B n v w' := h.keep fun k h1 => hb.block k (h.lt k h1).2
theorem Sv.shape {B n : Nat} {v : Value} {w : World} (h : Sv B n v w) : ∃ a c, v = .slice a n c := by
 obtain ⟨f, h, _⟩ := h
 rcases h.2 with ⟨rfl, e0⟩ | ⟨g, cap, cur, rfl, _⟩
 ·exact ⟨none, 0, by rw [e0]⟩
 ·exact ⟨_, _, rfl⟩
theorem Sv.scp {sb B n : Nat} {v : Value} {w : World} (h : Sv B n v w) (hs : sb < B) (hn : n ≤ 1048576) : Scp sb w v n := by
 obtain ⟨f, h, il⟩ := h
 have bK := h
 rcases h.2 with ⟨rfl, e0⟩ | ⟨g, cap, cur, rfl, h2, h3, h4, h5, h6⟩
 ·exact ⟨none, 0, by rw [e0], by omega, hn, .inl e0⟩
 ·unfold maxLen at h5
  refine ⟨_, cap, rfl, ⟨h4, by omega⟩, hn, .inr ⟨g, 0, rfl, by omega, (Array.getElem?_eq_some_iff.1 h3).1, fun i hi => ?_⟩⟩
  obtain ⟨f0, f1, f2⟩ := sN f hi
  have hc := fun o (u : Value) (hu : (iJ f n)[o]? = some u) => (pV g o ▸ bK.cells (g := g) rfl o u hu : w.cell? ⟨g, o, none⟩ = some u)
  simp only [Nat.zero_add]
  exact ⟨_, _, _, il i hi, hc _ _ f0, hc _ _ f1, hc _ _ f2⟩
theorem ye : (Tryd.prog.info? 83).map (fun i => (i.zero, i.size, i.bytes)) = some (some (.agg #[.string ⟨#[]⟩, .int .i64 0, .int .i64 0]), 3, 32) := by kernel_rfl
theorem sS {sb n B : Nat} {v : Value} {W : World} (h : Scp sb W v n) (hB : B ≤ W.heap.size) :
    ∃ v' W', (∀ ty, (Builtin.append_ #[68, 68] ty #[.slice (some ⟨W.heap.size, 0, none⟩) 0 0, v]).run Tryd.prog (W.alloc (.cells #[] 83)) = .ok v' W') ∧ Sv B n v' W' ∧ Below W.heap.size W W' := by
  obtain ⟨i0, qn, qm, hZ, hQ⟩ := info_parts ye
  have zJ := World.ownsRow_made (base := B) (e := 83) (size := 3) W #[] 0 hB (by unfold maxLen; omega) (by simp)
  have hG := bO W (.cells #[] 83)
  obtain ⟨a, cap, rfl, bQ, hn6, hq⟩ := h
  by_cases h0 : n = 0
  · subst h0
    have hs : Go.Src Tryd.prog i0.size 68 (.slice a 0 cap) 0 [] (W.alloc (.cells #[] 83)) := by
      cases a with
      | none => exact Go.Src.ofNil _ Tryd.underlying68 cap
      | some ad => exact Go.Src.ofSlice _ Tryd.underlying68 ad 0 cap [] (by simp) (fun j u hj => by simp at hj) (fun u hu => by cases hu)
    exact ⟨_, _, fun ty => run_append_nothing (P := Tryd.prog) _ 68 68 ty 83 i0 Tryd.underlying68 qn _ 0 0 lr _ hs, ⟨fun _ => (⟨#[]⟩, 0, 0), zJ, fun i hi => absurd hi (Nat.not_lt_zero _)⟩, hG⟩
  · rcases hq with e | ⟨g, off, rfl, hg, hl, hh⟩
    · exact absurd e h0
    have hin : Inhabited (ByteArray × Int × Int) := ⟨(⟨#[]⟩, 0, 0)⟩
    obtain ⟨f, hf⟩ := Go.Deep.choose_lt (p := fun i (x : ByteArray × Int × Int) => ck x.1 = true ∧ W.cell? ⟨g, off + i * 3, none⟩ = some (.string x.1) ∧ W.cell? ⟨g, off + i * 3 + 1, none⟩ = some (.int .i64 x.2.1) ∧ W.cell? ⟨g, off + i * 3 + 2, none⟩ = some (.int .i64 x.2.2)) (n := n) (fun i hi => by
      obtain ⟨s, t, d, h1, h2, h3, h4⟩ := hh i hi; exact ⟨(s, t, d), h1, h2, h3, h4⟩)
    have hc := fun o => (bO W (.cells #[] 83)).cell (p := ⟨g, o, none⟩) hl
    have nw : ∀ j u, (iJ f n)[j]? = some u → (W.alloc (.cells #[] 83)).cell? ((⟨g, off, none⟩ : Addr).add j) = some u := by
      intro j u hj
      obtain ⟨i, hi, hx⟩ := vj f hj
      obtain ⟨_, c0, c1, c2⟩ := hf i hi
      rw [Addr.add_lit]
      rcases hx with ⟨rfl, rfl⟩ | ⟨rfl, rfl⟩ | ⟨rfl, rfl⟩
      · exact (hc _).trans c0
      · rw [← Nat.add_assoc]; exact (hc _).trans c1
      · rw [← Nat.add_assoc]; exact (hc _).trans c2
    have h1 : ∀ u ∈ iJ f n, u.oneCell' = true := by
      intro u hu
      obtain ⟨j, hj⟩ := List.getElem?_of_mem hu
      obtain ⟨i, hi, hx⟩ := vj f hj
      rcases hx with ⟨_, rfl⟩ | ⟨_, rfl⟩ | ⟨_, rfl⟩ <;> rfl
    obtain ⟨v', W', hr, bK, aD, _⟩ := og (P := Tryd.prog) (W.alloc (.cells #[] 83)) B 68 68 83 i0 _ 3 32 Tryd.underlying68 qn qm hZ hQ rfl (by decide) _ 0 [] zJ ⟨g, off, none⟩ n cap (iJ f n) (oU f n) nw h1 (by unfold maxLen; omega) (by omega) (by simp; omega)
    refine ⟨v', W', fun ty => ?_, ⟨f, by simpa using bK, fun i hi => (hf i hi).1⟩, hG.grown aD (by simp) (fun k hk => by simp [Value.ownBlock] at hk; omega)⟩
    exact hr
theorem Et (f : Nat) : ∀ n, ∀ b ∈ gQ f n, aR b.toNat = true := by
 have hd : ∀ k : Nat, k < 10 → aR ((UInt8.ofNat (48 + k)).toNat : Int) = true := by
  intro k hk
  rcases (by omega : k = 0 ∨ k = 1 ∨ k = 2 ∨ k = 3 ∨ k = 4 ∨ k = 5 ∨ k = 6 ∨ k = 7 ∨ k = 8 ∨ k = 9) with rfl | rfl | rfl | rfl | rfl | rfl | rfl | rfl | rfl | rfl <;> decide
 induction f with
 |zero => intro n b hb; simp [gQ] at hb
 |succ f ih =>
  intro n b hb
  unfold gQ at hb
  split at hb
  ·rename_i h
   obtain rfl : b = UInt8.ofNat (48 + n) := by simpa using hb
   exact hd n h
  ·rcases List.mem_append.1 hb with hb | hb
   ·exact ih _ b hb
   ·obtain rfl : b = UInt8.ofNat (48 + n % 10) := by simpa using hb
    exact hd _ (Nat.mod_lt _ (by omega))
theorem oW (f : Nat) : ∀ n, (gQ f n).length ≤ f := by
 induction f with
 |zero => intro n; simp [gQ]
 |succ f ih =>
  intro n
  unfold gQ
  split
  ·simp
  ·have := ih (n / 10); simp; omega
theorem wN (l : List UInt8) : (cr l).data.toList = l := by simp [cr]
theorem qa (l : List UInt8) : (cr l).size = l.length := by simp [cr, ByteArray.size]
theorem Gm (c : UInt8) (hc : aW (c.toNat : Int) = true) (hk : ∀ t ∈ aS, t.data.toList.headD 0 ≠ c) (n : Nat) : ck (cr (c :: gQ 20 n)) = true := by
 have hl := oW 20 n
 unfold ck iy
 rw [wN, qa]
 simp only [List.headD_cons, List.length_cons, Bool.and_eq_true, decide_eq_true_eq, Bool.not_eq_true']
 refine ⟨⟨⟨by omega, by omega⟩, hc, ?_⟩, ?_⟩
 ·refine oq (fun b hb => ?_) (by simp) (fun h => by simp at h)
  rcases List.mem_cons.1 (List.mem_of_mem_take hb) with rfl | hb
  ·unfold aR; rw [hc]; rfl
  ·exact Et 20 n b hb
 ·rw [Bool.eq_false_iff]
  intro h
  have := hk _ ((lq _ _).1 h)
  rw [wN] at this
  exact this rfl
theorem NV (n : Nat) : ck ((⟨#[118]⟩ : ByteArray) ++ cr (gQ 20 n)) = true ∧ ((⟨#[118]⟩ : ByteArray) ++ cr (gQ 20 n)).size ≤ 40 := by
 have e : (⟨#[118]⟩ : ByteArray) ++ cr (gQ 20 n) = cr (118 :: gQ 20 n) := by
  have := mx [118] (gQ 20 n)
  simpa [cr] using this
 rw [e]
 refine ⟨Gm 118 (by decide) (by decide) n, ?_⟩
 have := oW 20 n
 rw [qa]; simp; omega
theorem iL {P : Program} (w : World) {ops : Array Oper} {rest : List Oper} {o : Oper} {a : Act} {Q : Exit → Act → World → Prop} (MA : o.guard = none) (sl x : Operand) (t : TypeId)
  (ho : o.op = .call { callee := .builtin .append, args := #[sl, x], argTypes := #[t, t] }) (v xv v' : Value) (w' : World) (hs : a.eval sl = v) (hx : a.eval x = xv) (hr : ∀ ty, (Builtin.append_ #[t, t] ty #[v, xv]).run P w = .ok v' w')
  (h : wpList P ops Q rest (a.put o.dst v') w') : wpList P ops Q (o :: rest) a w := by
 refine wpList_plain MA fun K hK => ?_
 unfold Oper.wp execOp
 simp only [ho, resolve, invoke, builtin, Sem.run_bind, Sem.run_pure, Result.andThen_ok, List.map_toArray, List.map_cons, List.map_nil, hs, hx, hr]
 exact hK _ _ h
def Nd.nm (T : Nd) (s : ByteArray) : Nd := .mk T.kind T.num s T.len T.kids
theorem Nd.nm_row {T : Nd} {s : ByteArray} {lo hi : Nat} {w : World} {v : Value} (h : Row lo hi w T v) : Row lo hi w (T.nm s) v := (ar (T := T.nm s)).2 ((ar (T := T)).1 h)
theorem Nd.nm_cost (T : Nd) (s : ByteArray) : (T.nm s).cost ≤ T.cost + s.size := by
 rw [T.cost_eq, (T.nm s).cost_eq]
 show s.size + (T.len + ag (fun i => (T.kids i).cost) T.len) ≤ _
 omega
theorem Nd.nm_fine {T : Nd} {s : ByteArray} (h : T.Fine) (hk : -9223372036854775808 ≤ T.kind ∧ T.kind ≤ 9223372036854775807) (hn : -9223372036854775808 ≤ T.num ∧ T.num ≤ 9223372036854775807) (hs : s.size ≤ 9223372036854775807) : (T.nm s).Fine :=
 ⟨hk, hn, hs, Nd.fine_len h, fun i hi => Nd.fine_kid h hi⟩
theorem Nd.fine_nums {T : Nd} (h : T.Fine) : (-9223372036854775808 ≤ T.kind ∧ T.kind ≤ 9223372036854775807) ∧ (-9223372036854775808 ≤ T.num ∧ T.num ≤ 9223372036854775807) := by
 cases T with
 |nil => exact ⟨by simp [Nd.kind], by simp [Nd.num]⟩
 |mk => exact ⟨h.1, h.2.1⟩
theorem J6 {T : Nd} (h : T.sOk = true) (hk : T.kind = 5) : T.len = 1 ∧ ck T.name = true := by
 rw [aG, hk] at h
 simp [aJ, aE, ByteArray.size] at h
 exact ⟨h.2.1, h.1.1.2⟩
theorem NI {T : Nd} {s : ByteArray} (h : T.sOk = true) (hk : T.kind = 5) (hs : ck s = true) : (T.nm s).sOk = true := by
 have fE := xZ hs
 rw [aG, hk] at h
 rw [aG]
 show aJ T.kind T.num s T.len (fun i => (T.kids i).eOk) (fun i => (T.kids i).sOk) (fun i => (T.kids i).cOk) (T.nm s).kk = true
 have Mu : (T.nm s).kk = T.kk := by funext i; cases T <;> rfl
 rw [Mu, hk]
 simp only [aJ] at h ⊢
 simp_all
theorem wR {m : Nat} {Ts : Nat → Nd} (h : ∀ i, i < m → (Ts i).sOk = true) : (Nd.mk 4 0 ⟨#[]⟩ m Ts).sOk = true := by
 rw [aG]
 show aJ 4 0 ⟨#[]⟩ m (fun i => (Ts i).eOk) (fun i => (Ts i).sOk) (fun i => (Ts i).cOk) _ = true
 simp only [aJ, if_true]
 rw [iD h]
 simp [az]
theorem AK {f : Nat → Nat} {C : Nat} : ∀ {m : Nat}, (∀ i, i < m → f i ≤ C) → ag f m ≤ m * C
 |0, _ => by simp [ag]
 |m + 1, h => by
  have h1 := AK (m := m) (C := C) (f := f) (fun i hi => h i (by omega))
  have h2 := h m (Nat.lt_succ_self _)
  simp only [ag]
  rw [Nat.add_mul]
  omega
theorem BK {m C : Nat} {Ts : Nat → Nd} (h : ∀ i, i < m → (Ts i).cost ≤ C) : (Nd.mk 4 0 ⟨#[]⟩ m Ts).cost ≤ m * (C + 1) := by
 show (ByteArray.size ⟨#[]⟩) + (m + ag (fun i => (Ts i).cost) m) ≤ _
 have := AK (m := m) (f := fun i => (Ts i).cost) h
 have e : ByteArray.size ⟨#[]⟩ = 0 := by decide
 rw [e, Nat.mul_add]
 omega
end Go.Proofs.YtkfbbdhidecefaaDoor
