import Derived.Test.YteaocammohcgoaaGreatDoorVDB
import Derived.Deep.Upon
set_option linter.unusedVariables false
set_option maxHeartbeats 16000000
set_option maxRecDepth 100000
namespace Go.Proofs.YteaocammohcgoaaGreatDoor
open Go.RowKit
variable {G : Prop}
theorem bW0 (h : G := by
 intro t
 show (a.tmps.setIfInBounds (d i) v).getD t undef = _
 rw [Array.getD_eq_getD_getElem?, Array.getElem?_setIfInBounds]
 by_cases e : d i = t
 ·subst e
  rw [if_pos rfl, if_pos rfl, if_pos (by rw [h.size]; exact b8)]; rfl
 ·rw [if_neg e, if_neg (fun x => e x.symm)]
  show _ = a.tmps.getD t undef
  rw [Array.getD_eq_getD_getElem?]) : G := h
theorem bW1 (h : G := by
 cases ua with
 |none => exact Go.Src.ofNil v Tryz.underlying23 uc
 |some ad => exact Go.Src.ofSlice v Tryz.underlying23 ad 0 uc [] (by simp) (fun j u hj => by simp at hj) (fun u hu => by cases hu)) : G := h
theorem sU {s : ByteArray} (h : aR s = true) : ao s = false := by
 have h1 : 1 ≤ s.size := by unfold aR dt at h; simp at h; omega
 unfold ao
 rw [ByteArray.toList_eq]
 cases hs : s.data.toList with
 |nil =>
  exfalso
  have h2 : s.data.size = 0 := by rw [← Array.length_toList, hs]; rfl
  have h3 : s.size = 0 := h2
  omega
 |cons a l => rfl
theorem lO {k : Int} {s : ByteArray} {A : Nd} (hk : k = 5 ∨ k = 6) (hs : aR s = true) (h : A.eOk = true) : (bX k 0 s A).sOk = true := by
 have := sU hs
 rw [bK]; rcases hk with rfl | rfl <;> simp [bX, Nd.kind, Nd.num, Nd.name, Nd.len, Nd.kids, bd, aG, aK, cq, h, hs, this, ByteArray.size]
theorem uk {n : Int} {s : ByteArray} (hn : n = 1 ∨ n = -1) (hs : aR s = true) : (aq 7 n s).sOk = true := by
 have := sU hs
 rw [bK]; rcases hn with rfl | rfl <;> simp [aq, Nd.kind, Nd.num, Nd.name, Nd.len, bd, hs, this]
theorem Dw {A B : Nd} (h : A.eOk = true) (h' : B.eOk = true) : (dR 8 0 ⟨#[]⟩ A B).sOk = true := by
 rw [bK]; simp [dR, Nd.kind, Nd.num, Nd.name, Nd.len, Nd.kids, bd, aG, aK, cq, ao, h, h', ByteArray.size]
theorem sP {k : Int} {A : Nd} (hk : k = 13 ∨ k = 14) (hA : A.kind = 25) (h : A.eOk = true) : (bX k 0 ⟨#[]⟩ A).sOk = true := by
 rw [bK]; rcases hk with rfl | rfl <;> simp [bX, Nd.kind, Nd.num, Nd.name, Nd.len, Nd.kids, Nd.kk, bd, aG, aK, cq, ao, h, ByteArray.size] <;> exact decide_eq_true hA
theorem lP {k : Int} {A : Nd} (hk : k = 19 ∨ k = 20 ∨ k = 21) (h : A.eOk = true) : (bX k 0 ⟨#[]⟩ A).sOk = true := by
 rw [bK]; rcases hk with rfl | rfl | rfl <;> simp [bX, Nd.kind, Nd.num, Nd.name, Nd.len, Nd.kids, bd, aG, aK, cq, ao, h, ByteArray.size]
theorem yQ {k : Int} (hk : k = 17 ∨ k = 18) : (aq k 0 ⟨#[]⟩).sOk = true := by
 rw [bK]; rcases hk with rfl | rfl <;> simp [aq, Nd.kind, Nd.num, Nd.name, Nd.len, bd, ao]
theorem Hy {A B : Nd} (h : A.eOk = true) (hB : B.kind = 4) (h' : B.sOk = true) : (dR 11 0 ⟨#[]⟩ A B).sOk = true := by
 rw [bK]; simp [dR, Nd.kind, Nd.num, Nd.name, Nd.len, Nd.kids, Nd.kk, bd, aG, aK, cq, ao, h, h', ByteArray.size]; exact hB
theorem H1 {A B : Nd} (h : A.sOk = true) (h' : B.sOk = true) : (dR 4 0 ⟨#[]⟩ A B).sOk = true := by
 rw [bK]; simp [dR, Nd.kind, Nd.num, Nd.name, Nd.len, Nd.kids, bd, aG, ao, h, h']
theorem sx {s : ByteArray} {A : Nd} (hs : aR s = true) (h : A.eOk = true) : (bX 25 0 s A).eOk = true := by
 rw [de]; simp [bX, Nd.kind, Nd.num, Nd.name, Nd.len, Nd.kids, cH, aG, h, hs]
def vM (s : ByteArray) : Prop := aR s = true ∧ s.size ≤ 40
theorem cm {sb b : Nat} {o : Obj} {W W' : World} (h : W.heap[b]? = some o) (dE : b ≠ sb) (hk : Kp sb W W') : W'.heap[b]? = some o := (hk.block b (Array.getElem?_eq_some_iff.1 h).1 dE).trans h
theorem bE {b : Nat} {o : Obj} {W W' : World} (h : W.heap[b]? = some o) (hb : Below W.heap.size W W') : W'.heap[b]? = some o := (hb.block b (Array.getElem?_eq_some_iff.1 h).1).trans h
def fS (k n : Int) (s : ByteArray) (a : Option Addr) (l c : Nat) : Obj := .cells #[.int .i64 k, .int .i64 n, .string s, .slice a l c] 25 (0, 0)
theorem ax {W : World} {b : Nat} {k n : Int} {s : ByteArray} {a : Option Addr} {l c : Nat} (h : W.heap[b]? = some (fS k n s a l c)) :
  W.cell? ⟨b, 0, none⟩ = some (.int .i64 k) ∧ W.cell? ⟨b, 1, none⟩ = some (.int .i64 n) ∧ W.cell? ⟨b, 2, none⟩ = some (.string s) ∧ W.cell? ⟨b, 3, none⟩ = some (.slice a l c) ∧ ∀ o, W.frozen? ⟨b, o, none⟩ = false := by
 unfold fS at h
 have hc : ∀ o, W.cell? ⟨b, o, none⟩ = (#[Value.int .i64 k, .int .i64 n, .string s, .slice a l c])[o]? := fun o => cell_of_row _ _ _ _ _ (0, 0) h
 exact ⟨by rw [hc]; rfl, by rw [hc]; rfl, by rw [hc]; rfl, by rw [hc]; rfl, fun o => frozen_of_row _ _ _ _ _ h⟩
theorem pg {sb b o : Nat} {v : Value} {w w' : World} (h : w.cell? ⟨b, o, none⟩ = some v) (hk : Kp sb w w') (dE : ¬ b = sb) : w'.cell? ⟨b, o, none⟩ = some v :=
 (World.cell?_of_block (a := ⟨b, o, none⟩) (hk.block b (iV h) dE)).trans h
theorem kp2 {sb : Nat} {W V : World} {o o' : Obj} (hk : Kp sb ((W.alloc o).alloc o').drew V) : Kp sb W V :=
 (bG (((bO W o).alloc (by simp) o').drew) (fun k => k = sb)).trans hk (fun _ _ h => h)
theorem yT {w V : World} {A : Nd} {u : Value} {g : Nat} (hg : w.heap.size + 1 ≤ g) (hb : V.heap[g]? = some (.cells #[.int .i64 A.kind, .int .i64 A.num, .string A.name, u] 25 (0, 0))) (h : RW w V A u) (k n : Int) (s : ByteArray) :
  RW w V (bX k n s A) (.slice (some ⟨g, 0, none⟩) 1 1) := by
 have hl := (Array.getElem?_eq_some_iff.1 hb).1
 have hc : ∀ o, V.cell? ⟨g, o, none⟩ = (#[Value.int .i64 A.kind, .int .i64 A.num, .string A.name, u])[o]? := fun o => cell_of_row _ _ _ _ _ (0, 0) hb
 refine gA hg hl lr (by omega) fun i hi => ?_
 obtain rfl : i = 0 := by omega
 exact ⟨u, by rw [hc]; rfl, by rw [hc]; rfl, by rw [hc]; rfl, by rw [hc]; rfl, h⟩
def XX (deep : Int) (C K M : Nat) : Prop := ∀ (sb A n : Nat) (v : Value) (loops : Bool) (w : World), A + K ≤ 1099511627776 → n + M ≤ 1000 → Src sb A w → Scp sb w v n →
 Calls Tryz.prog 62 #[.pointer (some ⟨sb, 0, none⟩), v, .int .i64 deep, .bool loops] w fun e w' => ∃ T u, e = .returned (T.val u) ∧ Drawn sb (A + K) (fun T => T.sOk = true) C w T u w'
def Kv (deep : Int) (C K M : Nat) : Prop := ∀ (sb A n m : Nat) (v : Value) (loops : Bool) (w : World), A + m * K + 10 ≤ 1099511627776 → n + m + M ≤ 1000 → Src sb A w → Scp sb w v n →
 Calls Tryz.prog 33 #[.pointer (some ⟨sb, 0, none⟩), v, .int .i64 deep, .int .i64 m, .bool loops] w fun e w' => ∃ T u, e = .returned (T.val u) ∧ Drawn sb (A + m * K + 10) (fun T => T.kind = 4 ∧ T.sOk = true ∧ T.len = m) (m * C) w T u w'
def SLC (deep : Int) (C K M : Nat) : Prop := ∀ (sb A n : Nat) (v : Value) (loops : Bool) (w : World), A + K ≤ 1099511627776 → n + M ≤ 1000 → Src sb A w → Scp sb w v n →
 Calls Tryz.prog 86 #[.pointer (some ⟨sb, 0, none⟩), v, .int .i64 deep, .bool loops] w fun e w' => ∃ T u, e = .returned (T.val u) ∧ Drawn sb (A + K) (fun T => T.sOk = true) C w T u w'
theorem DW.any {sb A : Nat} {w W W' : World} (h : DW sb A w W) (e1 : W'.os = W.os) (e2 : W'.tape = W.tape) (e3 : W'.output = W.output) (hz : W.heap.size ≤ W'.heap.size) (hb : ∀ k, k ≤ w.heap.size → W'.heap[k]? = W.heap[k]?) : DW sb A w W' := by
 have hl := h.low
 refine ⟨?_, ⟨e1.trans h.kp.os, e2.trans h.kp.tape, e3.trans h.kp.output, Nat.le_trans h.kp.size hz, fun k hk hn => ?_⟩, hl⟩
 ·obtain ⟨ca, cn, cc, a, s, h1, ha⟩ := h.src
  refine ⟨ca, cn, cc, a, s, ⟨(hb sb (by omega)).trans h1.blk, h1.low, h1.few, ?_⟩, ha⟩
  rcases h1.row with e | ⟨g, off, e, hg, hh⟩
  ·exact .inl e
  ·refine .inr ⟨g, off, e, hg, fun i hi => ?_⟩
   obtain ⟨x, dH, ft⟩ := hh i hi
   exact ⟨x, dH, (World.cell?_of_block (a := ⟨g, off + i, none⟩) (hb g (by omega))).trans ft⟩
 ·rw [World.size_alloc] at hk
  exact (hb k (by omega)).trans (h.kp.block k (by rw [World.size_alloc]; exact hk) hn)
theorem DW.grown {sb A : Nat} {w W W' : World} {row : Option Nat} (h : DW sb A w W) (hg : W.grownBy W' row) (hr : ∀ k, row = some k → w.heap.size < k) : DW sb A w W' :=
 h.any hg.os hg.tape hg.output hg.size (fun k hk => hg.block k (by have := h.size; omega) (fun e => by have := hr k e.symm; omega))
def cR (Ts : Nat → Nd) (us : Nat → Value) : Nat → List Value
 |0 => []
 |j + 1 => cR Ts us j ++ [.int .i64 (Ts j).kind, .int .i64 (Ts j).num, .string (Ts j).name, us j]
theorem fF (Ts : Nat → Nd) (us : Nat → Value) : ∀ j, (cR Ts us j).length = j * 4
 |0 => rfl
 |j + 1 => by simp only [cR, List.length_append, fF Ts us j, List.length_cons, List.length_nil]; omega
theorem jW (Ts : Nat → Nd) (us : Nat → Value) : ∀ {n i : Nat}, i < n → (cR Ts us n)[i * 4]? = some (.int .i64 (Ts i).kind) ∧ (cR Ts us n)[i * 4 + 1]? = some (.int .i64 (Ts i).num) ∧ (cR Ts us n)[i * 4 + 2]? = some (.string (Ts i).name) ∧ (cR Ts us n)[i * 4 + 3]? = some (us i)
 |n + 1, i, h => by
  have hl := fF Ts us n
  simp only [cR]
  by_cases e : i < n
  ·obtain ⟨h0, h1, h2, h3⟩ := jW Ts us e
   rw [List.getElem?_append_left (by omega), List.getElem?_append_left (by omega), List.getElem?_append_left (by omega), List.getElem?_append_left (by omega)]
   exact ⟨h0, h1, h2, h3⟩
  ·obtain rfl : i = n := by omega
   rw [List.getElem?_append_right (by omega), List.getElem?_append_right (by omega), List.getElem?_append_right (by omega), List.getElem?_append_right (by omega), hl]
   refine ⟨?_, ?_, ?_, ?_⟩
   ·rw [show i * 4 - i * 4 = 0 by omega]; rfl
   ·rw [show i * 4 + 1 - i * 4 = 1 by omega]; rfl
   ·rw [show i * 4 + 2 - i * 4 = 2 by omega]; rfl
   ·rw [show i * 4 + 3 - i * 4 = 3 by omega]; rfl
def j4 {α : Type} (f : Nat → α) (j : Nat) (x : α) : Nat → α := fun i => if i = j then x else f i
theorem cD {α : Type} (f : Nat → α) (j : Nat) (x : α) : j4 f j x j = x := if_pos rfl
theorem cW {α : Type} (f : Nat → α) {j i : Nat} (x : α) (h : i ≠ j) : j4 f j x i = f i := if_neg h
theorem sq (Ts : Nat → Nd) (us : Nat → Value) (T : Nd) (u : Value) : ∀ {j k : Nat}, j ≤ k → cR (j4 Ts k T) (j4 us k u) j = cR Ts us j
 |0, _, _ => rfl
 |j + 1, k, h => by simp only [cR]; rw [sq Ts us T u (show j ≤ k by omega), cW _ _ (show j ≠ k by omega), cW _ _ (show j ≠ k by omega)]
theorem xX (Ts : Nat → Nd) (us : Nat → Value) (T : Nd) (u : Value) (j : Nat) : cR (j4 Ts j T) (j4 us j u) (j + 1) = cR Ts us j ++ [.int .i64 T.kind, .int .i64 T.num, .string T.name, u] := by
 simp only [cR]
 rw [sq Ts us T u (Nat.le_refl j), cD, cD]
structure Gw (B : Nat) (Ts : Nat → Nd) (us : Nat → Value) (s e : Nat → Nat) (j : Nat) (v : Value) (w : World) : Prop where
 own : w.ownsRow B 25 4 v j (cR Ts us j)
 kid : ∀ i, i < j → Row (s i) (e i) w (Ts i) (us i) ∧ B ≤ s i ∧ s i ≤ e i ∧ e i ≤ w.heap.size
 apart : ∀ i, i < j → ∀ g, v.ownBlock = some g → g < s i ∨ e i ≤ g
theorem Gw.start {B : Nat} {v : Value} {w : World} (Ts : Nat → Nd) (us : Nat → Value) (s e : Nat → Nat) (h : w.ownsRow B 25 4 v 0 []) : Gw B Ts us s e 0 v w :=
 ⟨h, fun i hi => absurd hi (Nat.not_lt_zero _), fun i hi => absurd hi (Nat.not_lt_zero _)⟩
theorem Gw.keep {B j : Nat} {Ts : Nat → Nd} {us : Nat → Value} {s e : Nat → Nat} {v : Value} {w w' : World} (h : Gw B Ts us s e j v w) (hz : w.heap.size ≤ w'.heap.size) (hk : ∀ k, k < w.heap.size → B ≤ k → (v.ownBlock = some k ∨ ∃ i, i < j ∧ s i ≤ k ∧ k < e i) → w'.heap[k]? = w.heap[k]?) : Gw B Ts us s e j v w' := by
 refine ⟨dM h.own fun k nZ => hk k (h.own.lt k nZ).2 (h.own.lt k nZ).1 (.inl nZ), fun i hi => ?_, h.apart⟩
 obtain ⟨k1, k2, k3, k4⟩ := h.kid i hi
 exact ⟨dc lr lr (fun g o h1 h2 => World.cell?_of_block (a := ⟨g, o, none⟩) (hk g (by omega) (by omega) (.inr ⟨i, hi, h1, h2⟩))) k1, k2, k3, by omega⟩
theorem Gw.kp {sb B j : Nat} {Ts : Nat → Nd} {us : Nat → Value} {s e : Nat → Nat} {v : Value} {w w' : World} (h : Gw B Ts us s e j v w) (hs : sb < B) (hk : Kp sb w w') : Gw B Ts us s e j v w' :=
 h.keep hk.size fun k h1 h2 _ => hk.block k h1 (by omega)
theorem Gw.calm {B j : Nat} {Ts : Nat → Nd} {us : Nat → Value} {s e : Nat → Nat} {v : Value} {w w' : World} (h : Gw B Ts us s e j v w) (hb : Below w.heap.size w w') : Gw B Ts us s e j v w' :=
 h.keep hb.size fun k h1 _ _ => hb.block k h1
theorem Gw.put {B j b o : Nat} {x : Value} {Ts : Nat → Nd} {us : Nat → Value} {s e : Nat → Nat} {v : Value} {w : World} (h : Gw B Ts us s e j v w) (h1 : v.ownBlock ≠ some b) (h2 : ∀ i, i < j → b < s i ∨ e i ≤ b) : Gw B Ts us s e j v (w.setCell ⟨b, o, none⟩ x) :=
  h.keep (by simp [World.setCell]) fun k _ _ hh => Below.heap_setCell _ _ _ _ (by
    show k ≠ b
    rintro rfl
    rcases hh with hh | ⟨i, hi, a, c⟩
    · exact h1 hh
    · have := h2 i hi; omega)
theorem Gw.other {B j : Nat} {Ts : Nat → Nd} {us : Nat → Value} {s e : Nat → Nat} {v : Value} {w w' : World} {row : Option Nat} (h : Gw B Ts us s e j v w) (hg : w.grownBy w' row) (h1 : ∀ k, row = some k → v.ownBlock ≠ some k ∧ ∀ i, i < j → k < s i ∨ e i ≤ k) : Gw B Ts us s e j v w' :=
  h.keep hg.size fun k hk _ hh => hg.block k hk (fun er => by
    obtain ⟨a, b⟩ := h1 k er.symm
    rcases hh with hh | ⟨i, hi, c, d⟩
    · exact a hh
    · have := b i hi; omega)
theorem Gw.step {B j lo hi : Nat} {Ts : Nat → Nd} {us : Nat → Value} {s e : Nat → Nat} {v v' u : Value} {T : Nd} {w2 w3 : World} (h : Gw B Ts us s e j v w2) (ht : Row lo hi w2 T u) (hl : B ≤ lo) (Bl : lo ≤ hi) (hh : hi ≤ w2.heap.size) (bD : ∀ g, v.ownBlock = some g → g < lo ∨ hi ≤ g)
  (cY : w3.ownsRow B 25 4 v' (j + 1) (cR Ts us j ++ [.int .i64 T.kind, .int .i64 T.num, .string T.name, u])) (aX : w2.grownBy w3 v.ownBlock) (eF : v'.ownBlock = v.ownBlock ∨ ∃ k, v'.ownBlock = some k ∧ w2.heap.size ≤ k) :
  Gw B (j4 Ts j T) (j4 us j u) (j4 s j lo) (j4 e j hi) (j + 1) v' w3 := by
 have hz := aX.size
 refine ⟨by rw [xX]; exact cY, fun i fO => ?_, fun i fO g hg => ?_⟩
 ·by_cases iY : i = j
  ·subst iY
   rw [cD, cD, cD, cD]
   refine ⟨dc lr lr (fun g o h1 h2 => World.cell?_of_block (a := ⟨g, o, none⟩) (aX.block g (by omega) (fun er => by have := bD g er.symm; omega))) ht, hl, Bl, by omega⟩
  ·rw [cW _ _ iY, cW _ _ iY, cW _ _ iY, cW _ _ iY]
   obtain ⟨k1, k2, k3, k4⟩ := h.kid i (by omega)
   exact ⟨dc lr lr (fun g o h1 h2 => World.cell?_of_block (a := ⟨g, o, none⟩) (aX.block g (by omega) (fun er => by have := h.apart i (by omega) g er.symm; omega))) k1, k2, k3, by omega⟩
 ·by_cases iY : i = j
  ·subst iY
   rw [cD, cD]
   rcases eF with EI | ⟨k, hk, K5⟩
   ·exact bD g (EI ▸ hg)
   ·rw [hk] at hg; obtain rfl := Option.some.inj hg; omega
  ·rw [cW _ _ iY, cW _ _ iY]
   obtain ⟨k1, k2, k3, k4⟩ := h.kid i (by omega)
   rcases eF with EI | ⟨k, hk, K5⟩
   ·exact h.apart i (by omega) g (EI ▸ hg)
   ·rw [hk] at hg; obtain rfl := Option.some.inj hg; omega
theorem Gw.shape {B j : Nat} {Ts : Nat → Nd} {us : Nat → Value} {s e : Nat → Nat} {v : Value} {w : World} (h : Gw B Ts us s e j v w) : ∃ a c, v = .slice a j c := by
 rcases h.own.2 with ⟨rfl, e0⟩ | ⟨g, cap, cur, rfl, _⟩
 ·exact ⟨none, 0, by rw [e0]⟩
 ·exact ⟨_, _, rfl⟩
theorem Gw.row {B j lo : Nat} {Ts : Nat → Nd} {us : Nat → Value} {s e : Nat → Nat} {v : Value} {w : World} (h : Gw B Ts us s e j v w) (fy : lo ≤ B) (k n : Int) (nm : ByteArray) : Row lo w.heap.size w (.mk k n nm j Ts) v := by
 have cY := h.own
 rcases h.own.2 with ⟨rfl, e0⟩ | ⟨g, cap, cur, rfl, h2, h3, h4, h5, h6⟩
 ·exact aH.2 ⟨none, 0, by rw [show (Nd.mk k n nm j Ts).len = j from rfl, e0], by show j ≤ 0 ∧ _; omega, .inl e0⟩
 ·unfold maxLen at h5
  refine aH.2 ⟨_, cap, rfl, ⟨h4, by omega⟩, .inr ⟨g, 0, rfl, by omega, (Array.getElem?_eq_some_iff.1 h3).1, fun i hi => ?_⟩⟩
  obtain ⟨k1, k2, k3, k4⟩ := h.kid i hi
  obtain ⟨f0, f1, f2, f3⟩ := jW Ts us (show i < j from hi)
  have hc := fun o (u : Value) (hu : (cR Ts us j)[o]? = some u) => (iD g o ▸ cY.cells (g := g) rfl o u hu : w.cell? ⟨g, o, none⟩ = some u)
  rw [Nat.zero_add]
  exact ⟨us i, hc _ _ f0, hc _ _ f1, hc _ _ f2, hc _ _ f3, aO k1 (by omega) k4⟩
def fh (f : Nat → ByteArray × Int × Int) : Nat → List Value
 |0 => []
 |j + 1 => fh f j ++ [.string (f j).1, .int .i64 (f j).2.1, .int .i64 (f j).2.2]
theorem kn (f : Nat → ByteArray × Int × Int) : ∀ j, (fh f j).length = j * 3
 |0 => rfl
 |j + 1 => by simp only [fh, List.length_append, kn f j, List.length_cons, List.length_nil]; omega
theorem oc (f : Nat → ByteArray × Int × Int) : ∀ {n i : Nat}, i < n → (fh f n)[i * 3]? = some (.string (f i).1) ∧ (fh f n)[i * 3 + 1]? = some (.int .i64 (f i).2.1) ∧ (fh f n)[i * 3 + 2]? = some (.int .i64 (f i).2.2)
 |n + 1, i, h => by
  have hl := kn f n
  simp only [fh]
  by_cases e : i < n
  ·obtain ⟨h0, h1, h2⟩ := oc f e
   rw [List.getElem?_append_left (by omega), List.getElem?_append_left (by omega), List.getElem?_append_left (by omega)]
   exact ⟨h0, h1, h2⟩
  ·obtain rfl : i = n := by omega
   rw [List.getElem?_append_right (by omega), List.getElem?_append_right (by omega), List.getElem?_append_right (by omega), hl]
   refine ⟨?_, ?_, ?_⟩
   ·rw [show i * 3 - i * 3 = 0 by omega]; rfl
   ·rw [show i * 3 + 1 - i * 3 = 1 by omega]; rfl
   ·rw [show i * 3 + 2 - i * 3 = 2 by omega]; rfl
theorem qh (f : Nat → ByteArray × Int × Int) : ∀ {n j : Nat} {u : Value}, (fh f n)[j]? = some u → ∃ i, i < n ∧ ((j = i * 3 ∧ u = .string (f i).1) ∨ (j = i * 3 + 1 ∧ u = .int .i64 (f i).2.1) ∨ (j = i * 3 + 2 ∧ u = .int .i64 (f i).2.2)) := by
 intro n j u h
 have hl := kn f n
 have hj : j < n * 3 := by rw [← hl]; exact (List.getElem?_eq_some_iff.1 h).1
 refine ⟨j / 3, by omega, ?_⟩
 obtain ⟨h0, h1, h2⟩ := oc f (show j / 3 < n by omega)
 rcases (by omega : j = j / 3 * 3 ∨ j = j / 3 * 3 + 1 ∨ j = j / 3 * 3 + 2) with e | e | e
 ·left; rw [← e, h] at h0; exact ⟨e, Option.some.inj h0⟩
 ·right; left; rw [← e, h] at h1; exact ⟨e, Option.some.inj h1⟩
 ·right; right; rw [← e, h] at h2; exact ⟨e, Option.some.inj h2⟩
def Sv (B n : Nat) (v : Value) (w : World) : Prop := ∃ f : Nat → ByteArray × Int × Int, w.ownsRow B 92 3 v n (fh f n) ∧ ∀ i, i < n → aR (f i).1 = true
theorem Sv.lt {B n : Nat} {v : Value} {w : World} (h : Sv B n v w) : ∀ k, v.ownBlock = some k → B ≤ k ∧ k < w.heap.size := by obtain ⟨f, h, _⟩ := h; exact h.lt
theorem Sv.keep {B n : Nat} {v : Value} {w w' : World} (h : Sv B n v w) (hk : ∀ k, v.ownBlock = some k → w'.heap[k]? = w.heap[k]?) : Sv B n v w' := by
 obtain ⟨f, h1, h2⟩ := h; exact ⟨f, dM h1 hk, h2⟩
theorem Sv.kp {sb B n : Nat} {v : Value} {w w' : World} (h : Sv B n v w) (hs : sb < B) (hk : Kp sb w w') : Sv B n v w' := h.keep fun k h1 => hk.block k (h.lt k h1).2 (by have := (h.lt k h1).1; omega)
theorem Sv.calm {B n : Nat} {v : Value} {w w' : World} (h : Sv B n v w) (hb : Below w.heap.size w w') : Sv B n v w' := h.keep fun k h1 => hb.block k (h.lt k h1).2
theorem Sv.shape {B n : Nat} {v : Value} {w : World} (h : Sv B n v w) : ∃ a c, v = .slice a n c := by
 obtain ⟨f, h, _⟩ := h
 rcases h.2 with ⟨rfl, e0⟩ | ⟨g, cap, cur, rfl, _⟩
 ·exact ⟨none, 0, by rw [e0]⟩
 ·exact ⟨_, _, rfl⟩
theorem Sv.scp {sb B n : Nat} {v : Value} {w : World} (h : Sv B n v w) (hs : sb < B) (hn : n ≤ 1048576) : Scp sb w v n := by
 obtain ⟨f, h, dn⟩ := h
 have cY := h
 rcases h.2 with ⟨rfl, e0⟩ | ⟨g, cap, cur, rfl, h2, h3, h4, h5, h6⟩
 ·exact ⟨none, 0, by rw [e0], by omega, hn, .inl e0⟩
 ·unfold maxLen at h5
  refine ⟨_, cap, rfl, ⟨h4, by omega⟩, hn, .inr ⟨g, 0, rfl, by omega, (Array.getElem?_eq_some_iff.1 h3).1, fun i hi => ?_⟩⟩
  obtain ⟨f0, f1, f2⟩ := oc f hi
  have hc := fun o (u : Value) (hu : (fh f n)[o]? = some u) => (iD g o ▸ cY.cells (g := g) rfl o u hu : w.cell? ⟨g, o, none⟩ = some u)
  simp only [Nat.zero_add]
  exact ⟨_, _, _, dn i hi, hc _ _ f0, hc _ _ f1, hc _ _ f2⟩
theorem sY : (Tryz.prog.info? 92).map (fun i => (i.zero, i.size, i.bytes)) = some (some (.agg #[.string ⟨#[]⟩, .int .i64 0, .int .i64 0]), 3, 32) := by kernel_rfl
theorem oj {sb n B : Nat} {v : Value} {W : World} (h : Scp sb W v n) (hB : B ≤ W.heap.size) :
    ∃ v' W', (∀ ty, (Builtin.append_ #[49, 49] ty #[.slice (some ⟨W.heap.size, 0, none⟩) 0 0, v]).run Tryz.prog (W.alloc (.cells #[] 92)) = .ok v' W') ∧ Sv B n v' W' ∧ Below W.heap.size W W' := by
  obtain ⟨i0, lq, oQ, eT, ed⟩ := info_parts sY
  have oG := World.ownsRow_made (base := B) (e := 92) (size := 3) W #[] 0 hB (by unfold maxLen; omega) (by simp)
  have eV := bO W (.cells #[] 92)
  obtain ⟨a, cap, rfl, cr, hn6, hq⟩ := h
  by_cases h0 : n = 0
  · subst h0
    have hs : Go.Src Tryz.prog i0.size 49 (.slice a 0 cap) 0 [] (W.alloc (.cells #[] 92)) := by
      cases a with
      | none => exact Go.Src.ofNil _ Tryz.underlying49 cap
      | some ad => exact Go.Src.ofSlice _ Tryz.underlying49 ad 0 cap [] (by simp) (fun j u hj => by simp at hj) (fun u hu => by cases hu)
    exact ⟨_, _, fun ty => run_append_nothing (P := Tryz.prog) _ 49 49 ty 92 i0 Tryz.underlying49 lq _ 0 0 lr _ hs, ⟨fun _ => (⟨#[]⟩, 0, 0), oG, fun i hi => absurd hi (Nat.not_lt_zero _)⟩, eV⟩
  · rcases hq with e | ⟨g, off, rfl, hg, hl, hh⟩
    · exact absurd e h0
    have hin : Inhabited (ByteArray × Int × Int) := ⟨(⟨#[]⟩, 0, 0)⟩
    obtain ⟨f, hf⟩ := Go.Deep.choose_lt (p := fun i (x : ByteArray × Int × Int) => aR x.1 = true ∧ W.cell? ⟨g, off + i * 3, none⟩ = some (.string x.1) ∧ W.cell? ⟨g, off + i * 3 + 1, none⟩ = some (.int .i64 x.2.1) ∧ W.cell? ⟨g, off + i * 3 + 2, none⟩ = some (.int .i64 x.2.2)) (n := n) (fun i hi => by
      obtain ⟨s, t, d, h1, h2, h3, h4⟩ := hh i hi; exact ⟨(s, t, d), h1, h2, h3, h4⟩)
    have hc := fun o => (bO W (.cells #[] 92)).cell (p := ⟨g, o, none⟩) hl
    have oE : ∀ j u, (fh f n)[j]? = some u → (W.alloc (.cells #[] 92)).cell? ((⟨g, off, none⟩ : Addr).add j) = some u := by
      intro j u hj
      obtain ⟨i, hi, hx⟩ := qh f hj
      obtain ⟨_, c0, c1, c2⟩ := hf i hi
      rw [Addr.add_lit]
      rcases hx with ⟨rfl, rfl⟩ | ⟨rfl, rfl⟩ | ⟨rfl, rfl⟩
      · exact (hc _).trans c0
      · rw [← Nat.add_assoc]; exact (hc _).trans c1
      · rw [← Nat.add_assoc]; exact (hc _).trans c2
    have h1 : ∀ u ∈ fh f n, u.oneCell' = true := by
      intro u hu
      obtain ⟨j, hj⟩ := List.getElem?_of_mem hu
      obtain ⟨i, hi, hx⟩ := qh f hj
      rcases hx with ⟨_, rfl⟩ | ⟨_, rfl⟩ | ⟨_, rfl⟩ <;> rfl
    obtain ⟨v', W', hr, cY, aX, _⟩ := jH (P := Tryz.prog) (W.alloc (.cells #[] 92)) B 49 49 92 i0 _ 3 32 Tryz.underlying49 lq oQ eT ed rfl (by decide) _ 0 [] oG ⟨g, off, none⟩ n cap (fh f n) (kn f n) oE h1 (by unfold maxLen; omega) (by omega) (by simp; omega)
    refine ⟨v', W', fun ty => ?_, ⟨f, by simpa using cY, fun i hi => (hf i hi).1⟩, eV.grown aX (by simp) (fun k hk => by simp [Value.ownBlock] at hk; omega)⟩
    exact hr
def eI : Nat → Nat → List UInt8
 |0, _ => []
 |f + 1, n => if n < 10 then [UInt8.ofNat (48 + n)] else eI f (n / 10) ++ [UInt8.ofNat (48 + n % 10)]
def Ur (f : Nat → List UInt8) : Nat → List UInt8
 |0 => []
 |n + 1 => Ur f n ++ f n
def eO (l : List UInt8) : ByteArray := ⟨l.toArray⟩
theorem ow (a b : List UInt8) : eO a ++ eO b = eO (a ++ b) := by
 unfold eO
 apply ByteArray.ext
 simp
theorem BK (f : Nat) : ∀ n, ∀ b ∈ eI f n, eX b.toNat = true := by
 have hd : ∀ k : Nat, k < 10 → eX ((UInt8.ofNat (48 + k)).toNat : Int) = true := by
  intro k hk
  rcases (by omega : k = 0 ∨ k = 1 ∨ k = 2 ∨ k = 3 ∨ k = 4 ∨ k = 5 ∨ k = 6 ∨ k = 7 ∨ k = 8 ∨ k = 9) with rfl | rfl | rfl | rfl | rfl | rfl | rfl | rfl | rfl | rfl <;> decide
 induction f with
 |zero => intro n b hb; simp [eI] at hb
 |succ f ih =>
  intro n b hb
  unfold eI at hb
  split at hb
  ·rename_i h
   obtain rfl : b = UInt8.ofNat (48 + n) := by simpa using hb
   exact hd n h
  ·rcases List.mem_append.1 hb with hb | hb
   ·exact ih _ b hb
   ·obtain rfl : b = UInt8.ofNat (48 + n % 10) := by simpa using hb
    exact hd _ (Nat.mod_lt _ (by omega))
theorem kq (f : Nat) : ∀ n, (eI f n).length ≤ f := by
 induction f with
 |zero => intro n; simp [eI]
 |succ f ih =>
  intro n
  unfold eI
  split
  ·simp
  ·have := ih (n / 10); simp; omega
theorem rB (l : List UInt8) : (eO l).data.toList = l := by simp [eO]
theorem lL (l : List UInt8) : (eO l).size = l.length := by simp [eO, ByteArray.size]
theorem DP (c : UInt8) (hc : hZ (c.toNat : Int) = true) (hk : ∀ t ∈ dg, t.data.toList.headD 0 ≠ c) (n : Nat) : aR (eO (c :: eI 20 n)) = true := by
 have hl := kq 20 n
 unfold aR dt
 rw [rB, lL]
 simp only [List.headD_cons, List.length_cons, Bool.and_eq_true, decide_eq_true_eq, Bool.not_eq_true']
 refine ⟨⟨⟨by omega, by omega⟩, hc, ?_⟩, ?_⟩
 ·refine kT (fun b hb => ?_) (by simp) (fun h => by simp at h)
  rcases List.mem_cons.1 (List.mem_of_mem_take hb) with rfl | hb
  ·unfold eX; rw [hc]; rfl
  ·exact BK 20 n b hb
 ·rw [Bool.eq_false_iff]
  intro h
  have := hk _ ((jU _ _).1 h)
  rw [rB] at this
  exact this rfl
theorem Ml (n : Nat) : aR ((⟨#[118]⟩ : ByteArray) ++ eO (eI 20 n)) = true ∧ ((⟨#[118]⟩ : ByteArray) ++ eO (eI 20 n)).size ≤ 40 := by
 have e : (⟨#[118]⟩ : ByteArray) ++ eO (eI 20 n) = eO (118 :: eI 20 n) := by
  have := ow [118] (eI 20 n)
  simpa [eO] using this
 rw [e]
 refine ⟨DP 118 (by decide) (by decide) n, ?_⟩
 have := kq 20 n
 rw [lL]; simp; omega
theorem dW {P : Program} (w : World) {ops : Array Oper} {rest : List Oper} {o : Oper} {a : Act} {Q : Exit → Act → World → Prop} (hgd : o.guard = none) (sl x : Operand) (t : TypeId)
  (ho : o.op = .call { callee := .builtin .append, args := #[sl, x], argTypes := #[t, t] }) (v xv v' : Value) (w' : World) (hs : a.eval sl = v) (hx : a.eval x = xv) (hr : ∀ ty, (Builtin.append_ #[t, t] ty #[v, xv]).run P w = .ok v' w')
  (h : wpList P ops Q rest (a.put o.dst v') w') : wpList P ops Q (o :: rest) a w := by
 refine wpList_plain hgd fun K hK => ?_
 unfold Oper.wp execOp
 simp only [ho, resolve, invoke, builtin, Sem.run_bind, Sem.run_pure, Result.andThen_ok, List.map_toArray, List.map_cons, List.map_nil, hs, hx, hr]
 exact hK _ _ h
def Nd.nm (T : Nd) (s : ByteArray) : Nd := .mk T.kind T.num s T.len T.kids
theorem Nd.nm_row {T : Nd} {s : ByteArray} {lo hi : Nat} {w : World} {v : Value} (h : Row lo hi w T v) : Row lo hi w (T.nm s) v := (aH (T := T.nm s)).2 ((aH (T := T)).1 h)
theorem Nd.nm_cost (T : Nd) (s : ByteArray) : (T.nm s).cost ≤ T.cost + s.size := by
 rw [T.cost_eq, (T.nm s).cost_eq]
 show s.size + (T.len + ar (fun i => (T.kids i).cost) T.len) ≤ _
 omega
theorem Nd.nm_fine {T : Nd} {s : ByteArray} (h : T.Fine) (hk : -9223372036854775808 ≤ T.kind ∧ T.kind ≤ 9223372036854775807) (hn : -9223372036854775808 ≤ T.num ∧ T.num ≤ 9223372036854775807) (hs : s.size ≤ 9223372036854775807) : (T.nm s).Fine :=
 ⟨hk, hn, hs, Nd.fine_len h, fun i hi => Nd.fine_kid h hi⟩
theorem Nd.fine_nums {T : Nd} (h : T.Fine) : (-9223372036854775808 ≤ T.kind ∧ T.kind ≤ 9223372036854775807) ∧ (-9223372036854775808 ≤ T.num ∧ T.num ≤ 9223372036854775807) := by
 cases T with
 |nil => exact ⟨by simp [Nd.kind], by simp [Nd.num]⟩
 |mk => exact ⟨h.1, h.2.1⟩
theorem Hz {T : Nd} (h : T.sOk = true) (hk : T.kind = 5) : T.len = 1 ∧ aR T.name = true := by
 rw [bK, hk] at h
 simp [bd, aK, ByteArray.size] at h
 exact ⟨h.2.1, h.1.1.2⟩
theorem Mf {T : Nd} {s : ByteArray} (h : T.sOk = true) (hk : T.kind = 5) (hs : aR s = true) : (T.nm s).sOk = true := by
 have dE := sU hs
 rw [bK, hk] at h
 rw [bK]
 show bd T.kind T.num s T.len (fun i => (T.kids i).eOk) (fun i => (T.kids i).sOk) (fun i => (T.kids i).cOk) (T.nm s).kk = true
 have K6 : (T.nm s).kk = T.kk := by funext i; cases T <;> rfl
 rw [K6, hk]
 simp only [bd] at h ⊢
 simp_all
theorem rG {m : Nat} {Ts : Nat → Nd} (h : ∀ i, i < m → (Ts i).sOk = true) : (Nd.mk 4 0 ⟨#[]⟩ m Ts).sOk = true := by
 rw [bK]
 show bd 4 0 ⟨#[]⟩ m (fun i => (Ts i).eOk) (fun i => (Ts i).sOk) (fun i => (Ts i).cOk) _ = true
 simp only [bd, if_true]
 rw [eo h]
 simp [ao]
theorem wy {f : Nat → Nat} {C : Nat} : ∀ {m : Nat}, (∀ i, i < m → f i ≤ C) → ar f m ≤ m * C
 |0, _ => by simp [ar]
 |m + 1, h => by
  have h1 := wy (m := m) (C := C) (f := f) (fun i hi => h i (by omega))
  have h2 := h m (Nat.lt_succ_self _)
  simp only [ar]
  rw [Nat.add_mul]
  omega
theorem yh {m C : Nat} {Ts : Nat → Nd} (h : ∀ i, i < m → (Ts i).cost ≤ C) : (Nd.mk 4 0 ⟨#[]⟩ m Ts).cost ≤ m * (C + 1) := by
 show (ByteArray.size ⟨#[]⟩) + (m + ar (fun i => (Ts i).cost) m) ≤ _
 have := wy (m := m) (f := fun i => (Ts i).cost) h
 have e : ByteArray.size ⟨#[]⟩ = 0 := by decide
 rw [e, Nat.mul_add]
 omega
section
open Go
def KA (ops : Array Oper) (listed : Array Bool) : Nat := (List.range ops.size).countP fun i => !listed.getD i true
theorem bj {md : Region.Mode} {ops : Array Oper} {listed : Array Bool} {i : Nat} (h : i ∈ Region.ready md ops listed) : i < ops.size ∧ listed.getD i true = false := by
 unfold Region.ready at h
 simp only [List.mem_filter, List.mem_range, Bool.and_eq_true, Bool.not_eq_true'] at h
 exact ⟨h.1, h.2.1⟩
theorem GC {md : Region.Mode} {ops : Array Oper} {listed : Array Bool} {i : Nat} (h : i ∈ Region.ready md ops listed) : 0 < KA ops listed := by
 obtain ⟨h1, h2⟩ := bj h
 unfold KA
 rw [List.countP_pos_iff]
 exact ⟨i, List.mem_range.2 h1, by simp [h2]⟩
theorem GB {md : Region.Mode} {ops : Array Oper} {listed : Array Bool} {i : Nat} (h : i ∈ Region.ready md ops listed) : KA ops (listed.setIfInBounds i true) < KA ops listed := by
 obtain ⟨h1, h2⟩ := bj h
 have bN : i < listed.size := by
  rcases Nat.lt_or_ge i listed.size with h | h
  ·exact h
  ·rw [Array.getD_eq_getD_getElem?, Array.getElem?_eq_none h] at h2; simp at h2
 unfold KA
 have hle : ∀ j, (!(listed.setIfInBounds i true).getD j true) = true → (!listed.getD j true) = true := by
  intro j hj
  rw [Array.getD_eq_getD_getElem?, Array.getElem?_setIfInBounds] at hj
  split at hj
  ·rename_i e; simp at hj
  ·rw [Array.getD_eq_getD_getElem?]; exact hj
 have hi : (!(listed.setIfInBounds i true).getD i true) = false := by
  rw [Array.getD_eq_getD_getElem?, Array.getElem?_setIfInBounds]; simp [bN]
 have fO : (!listed.getD i true) = true := by simp [h2]
 have Iz : i ∈ List.range ops.size := List.mem_range.2 h1
 revert Iz
 generalize List.range ops.size = l
 intro Iz
 induction l with
 |nil => cases Iz
 |cons x l ih =>
  have hmono := List.countP_mono_left (l := l) (fun j _ hj => hle j hj)
  simp only [List.countP_cons]
  rcases List.mem_cons.1 Iz with e | hm
  ·subst e
   rw [hi, fO]
   simp only [Bool.false_eq_true, if_false, if_true]
   omega
  ·have := ih hm
   have hx := hle x
   by_cases hb : (!(listed.setIfInBounds i true).getD x true) = true
   ·rw [if_pos hb, if_pos (hx hb)]; omega
   ·rw [if_neg hb]; omega
theorem ru {P : Program} {ops : Array Oper} {Q : Exit → Act → World → Prop} {md : Region.Mode} (I : Array Bool → Act → World → Prop)
  (uR : ∀ (listed : Array Bool) (a : Act) (w : World) (i : Nat), I listed a w → i ∈ Region.ready md ops listed → wpOp P ops Q i (fun a' w' => I (listed.setIfInBounds i true) a' w') a w)
  (mi : ∀ (listed : Array Bool) (a : Act) (w : World), I listed a w → Region.ready md ops listed = [] → Q .normal a w) :
  ∀ (fuel : Nat) (listed : Array Bool) (a : Act) (w : World), KA ops listed ≤ fuel → I listed a w → wpAny P md ops Q fuel listed a w := by
 intro fuel
 induction fuel with
 |zero =>
  intro listed a w hu hI
  have hr : Region.ready md ops listed = [] := by
   cases h : Region.ready md ops listed with
   |nil => rfl
   |cons i l => have := GC (show i ∈ Region.ready md ops listed by rw [h]; simp); omega
  exact ⟨hr, mi _ _ _ hI hr⟩
 |succ fuel ih =>
  intro listed a w hu hI
  refine ⟨fun hr => mi _ _ _ hI hr, fun i hi => ?_⟩
  refine wpOp_mono (fun a' w' h => ih _ a' w' ?_ h) (uR listed a w i hI hi)
  have := GB hi
  omega
end
section
open Go Go.RowKit
def early (ops : Array Oper) : Bool := (List.range ops.size).all fun i => match ops[i]? with | some o => o.after.all fun e => !Region.binds .any e || decide (e.on < i) | none => true
theorem mS {ops : Array Oper} {listed : Array Bool} (he : early ops = true) (hs : listed.size = ops.size) (hr : Region.ready .any ops listed = []) : ∀ i, i < ops.size → listed.getD i true = true := by
 intro i
 induction i using Nat.strongRecOn with
 |ind i ih =>
  intro hi
  cases hb : listed.getD i true with
  |true => rfl
  |false =>
   exfalso
   have hm : i ∈ Region.ready .any ops listed := by
    unfold Region.ready
    rw [List.mem_filter]
    refine ⟨List.mem_range.2 hi, ?_⟩
    have ho : ops[i]? = some ops[i] := Array.getElem?_eq_getElem hi
    rw [hb, ho]
    simp only [Bool.not_false, Bool.true_and, Option.map_some, Option.getD_some, Array.all_eq_true']
    intro e hee
    have h1 := List.all_eq_true.1 he i (List.mem_range.2 hi)
    rw [ho] at h1
    have h2 := Array.all_eq_true'.1 h1 e hee
    cases Gf : Region.binds .any e with
    |false => simp
    |true =>
     rw [Gf] at h2
     have Ln : e.on < i := by simpa using h2
     have h3 := ih e.on Ln (by omega)
     have h4 : listed.getD e.on false = true := by
      have hl : e.on < listed.size := by omega
      rw [Array.getD_eq_getD_getElem?, Array.getElem?_eq_getElem hl] at h3 ⊢
      exact h3
     rw [h4, Bool.or_true]
   rw [hr] at hm
   cases hm
theorem nR {md : Region.Mode} {ops : Array Oper} {listed : Array Bool} {i : Nat} {o : Oper} (h : i ∈ Region.ready md ops listed) (ho : ops[i]? = some o) : ∀ e ∈ o.after, Region.binds md e = true → listed.getD e.on false = true := by
 unfold Region.ready at h
 simp only [List.mem_filter, ho, Option.map_some, Option.getD_some, Bool.and_eq_true, Array.all_eq_true'] at h
 intro e he hb
 have := h.2.2 e he
 rw [hb] at this
 simpa using this
theorem fG {md : Region.Mode} {ops : Array Oper} {l : Array Bool} {i : Nat} (h : i ∈ Region.ready md ops l) : Hid (∀ o, ops[i]? = some o → ∀ e ∈ o.after, Region.binds md e = true → l.getD e.on false = true) := fun _ ho => nR h ho
theorem ag {ops : Array Oper} {md : Region.Mode} {l : Array Bool} {i n : Nat} {Q : Nat → Prop} (V : Hid (∀ j, j < n → l.getD j false = true → Q j)) (D : Hid (∀ o, ops[i]? = some o → ∀ e ∈ o.after, Region.binds md e = true → l.getD e.on false = true)) (j : Nat) {o : Oper} (h : ops[i]? = some o) (h1 : j < n := by omega) (h2 : (⟨j, Ground.data⟩ : Edge) ∈ o.after := by simp) (h3 : Region.binds md ⟨j, Ground.data⟩ = true := by rfl) : Q j := V.out j h1 (D.out o h ⟨j, Ground.data⟩ h2 h3)
theorem bJ {l : Array Bool} {i j : Nat} (h : i ≠ j) (b : Bool) : (l.setIfInBounds i true).getD j b = l.getD j b := by
 rw [Array.getD_eq_getD_getElem?, Array.getElem?_setIfInBounds, if_neg h, Array.getD_eq_getD_getElem?]
theorem fw {l : Array Bool} {i : Nat} (h : i < l.size) : (l.setIfInBounds i true).getD i false = true := by
 rw [Array.getD_eq_getD_getElem?, Array.getElem?_setIfInBounds, if_pos rfl, if_pos h]; rfl
theorem nt {l : Array Bool} {j : Nat} (h : l.getD j false = true) : l.getD j true = true := by
 rw [Array.getD_eq_getD_getElem?] at *
 cases e : l[j]? with
 |none => rw [e] at h; simp at h
 |some b => rw [e] at h; simpa using h
theorem cC {l : Array Bool} {j : Nat} (h : l.getD j true = false) : l.getD j false = false := by
 rw [Array.getD_eq_getD_getElem?] at *
 cases e : l[j]? with
 |none => rfl
 |some b => rw [e] at h; simpa using h
structure Inv (n : Nat) (d : Nat → Nat) (V : Nat → World → Value → Prop) (S : Array Bool → World → Prop) (a0 : Act) (listed : Array Bool) (a : Act) (w : World) : Prop where
 lsize : listed.size = n
 size : a.tmps.size = a0.tmps.size
 keep : ∀ t, (∀ i, i < n → t ≠ d i) → a.eval (.tmp t) = a0.eval (.tmp t)
 defers : a.defers = a0.defers
 s : S listed w
 vals : ∀ i, i < n → listed.getD i true = true → V i w (a.eval (.tmp (d i)))
theorem Inv.start {n : Nat} {d : Nat → Nat} {V : Nat → World → Value → Prop} {S : Array Bool → World → Prop} {a0 : Act} {w : World} (h : S (Array.replicate n false) w) : Inv n d V S a0 (Array.replicate n false) a0 w :=
 ⟨by simp, rfl, fun _ _ => rfl, rfl, h, fun i hi hl => by rw [Array.getD_eq_getD_getElem?, Array.getElem?_replicate, if_pos hi] at hl; simp at hl⟩
theorem Inv.put1 {n : Nat} {d : Nat → Nat} {V : Nat → World → Value → Prop} {S : Array Bool → World → Prop} {a0 : Act} {listed : Array Bool} {a : Act} {w w' : World} (h : Inv n d V S a0 listed a w) (hd : ∀ i j, i < n → j < n → d i = d j → i = j) 
  {i : Nat} (b8 : d i < a0.tmps.size) (hV : ∀ i v, V i w v → V i w' v) (hS : S (listed.setIfInBounds i true) w') (hi : i < n) {v : Value} (hv : V i w' v) : Inv n d V S a0 (listed.setIfInBounds i true) (a.put (some (d i)) v) w' := by
 have ln : ∀ t, (a.put (some (d i)) v).eval (.tmp t) = if t = d i then v else a.eval (.tmp t) := by
  exact bW0
 refine ⟨by simp [h.lsize], by show (a.tmps.setIfInBounds (d i) v).size = _; rw [Array.size_setIfInBounds]; exact h.size, fun t ht => ?_, h.defers, hS, fun j hj hl => ?_⟩
 ·rw [ln, if_neg (ht i hi)]; exact h.keep t ht
 ·rw [ln]
  by_cases e : d j = d i
  ·rw [if_pos e]
   rw [hd j i hj hi e]
   exact hv
  ·rw [if_neg e]
   refine hV j _ (h.vals j hj ?_)
   have dE : ¬ i = j := fun x => e (by rw [x])
   rw [Array.getD_eq_getD_getElem?, Array.getElem?_setIfInBounds, if_neg dE] at hl
   rw [Array.getD_eq_getD_getElem?]; exact hl
theorem Inv.put {n : Nat} {d : Nat → Nat} {V : Nat → World → Value → Prop} {S : Array Bool → World → Prop} {a0 : Act} {listed : Array Bool} {a : Act} {w w' : World} (h : Inv n d V S a0 listed a w) (hd : ∀ i j, i < n → j < n → d i = d j → i = j) (b8 : ∀ i, i < n → d i < a0.tmps.size)
  {i : Nat} (hV : ∀ i v, V i w v → V i w' v) (hS : S (listed.setIfInBounds i true) w') (hi : i < n) {v : Value} (hv : V i w' v) : Inv n d V S a0 (listed.setIfInBounds i true) (a.put (some (d i)) v) w' :=
 h.put1 hd (b8 i hi) hV hS hi hv
theorem Inv.none {n : Nat} {d : Nat → Nat} {V : Nat → World → Value → Prop} {S : Array Bool → World → Prop} {a0 : Act} {listed : Array Bool} {a : Act} {w w' : World} (h : Inv n d V S a0 listed a w)
  {i : Nat} (hV : ∀ i v, V i w v → V i w' v) (hS : S (listed.setIfInBounds i true) w') (hi : i < n) (hv : ∀ v, V i w' v) : Inv n d V S a0 (listed.setIfInBounds i true) a w' := by
 refine ⟨by simp [h.lsize], h.size, h.keep, h.defers, hS, fun j hj hl => ?_⟩
 by_cases e : i = j
 ·subst e; exact hv _
 ·refine hV j _ (h.vals j hj ?_)
  rw [Array.getD_eq_getD_getElem?, Array.getElem?_setIfInBounds, if_neg e] at hl
  rw [Array.getD_eq_getD_getElem?]; exact hl
theorem ab {a : Act} {t : Nat} {v : Value} (h : a.eval (.tmp t) = v) : a.tmps[t]?.getD undef = v := by
 have : a.tmps.getD t undef = v := h
 rwa [Array.getD_eq_getD_getElem?] at this
def ig (a0 : Act) (d : Nat → Nat) (f : Nat → Value) : Nat → Act
 |0 => a0
 |n + 1 => (ig a0 d f n).put (some (d n)) (f n)
theorem rH (a0 a : Act) (d : Nat → Nat) (hs : a.tmps.size = a0.tmps.size) : ∀ n, (ig a0 d (fun i => a.eval (.tmp (d i))) n).tmps.size = a0.tmps.size ∧ (ig a0 d (fun i => a.eval (.tmp (d i))) n).defers = a0.defers ∧
  ∀ t, t < a0.tmps.size → ((∃ i, i < n ∧ d i = t) → (ig a0 d (fun i => a.eval (.tmp (d i))) n).eval (.tmp t) = a.eval (.tmp t)) ∧ ((∀ i, i < n → d i ≠ t) → (ig a0 d (fun i => a.eval (.tmp (d i))) n).eval (.tmp t) = a0.eval (.tmp t))
 |0 => ⟨rfl, rfl, fun t _ => ⟨fun ⟨i, hi, _⟩ => absurd hi (Nat.not_lt_zero _), fun _ => rfl⟩⟩
 |n + 1 => by
  obtain ⟨h1, h2, h3⟩ := rH a0 a d hs n
  have ln : ∀ t, t < a0.tmps.size → (ig a0 d (fun i => a.eval (.tmp (d i))) (n + 1)).eval (.tmp t) = if t = d n then a.eval (.tmp (d n)) else (ig a0 d (fun i => a.eval (.tmp (d i))) n).eval (.tmp t) := by
   intro t ht
   show ((ig a0 d (fun i => a.eval (.tmp (d i))) n).tmps.setIfInBounds (d n) (a.eval (.tmp (d n)))).getD t undef = _
   rw [Array.getD_eq_getD_getElem?, Array.getElem?_setIfInBounds]
   by_cases e : d n = t
   ·subst e
    rw [if_pos rfl, if_pos rfl, if_pos (by rw [h1]; exact ht)]; rfl
   ·rw [if_neg e, if_neg (fun x => e x.symm)]
    show _ = (ig a0 d (fun i => a.eval (.tmp (d i))) n).tmps.getD t undef
    rw [Array.getD_eq_getD_getElem?]
  refine ⟨?_, h2, fun t ht => ⟨fun ⟨i, hi, e⟩ => ?_, fun pV => ?_⟩⟩
  ·show ((ig a0 d (fun i => a.eval (.tmp (d i))) n).tmps.setIfInBounds (d n) _).size = _
   rw [Array.size_setIfInBounds]; exact h1
  ·rw [ln t ht]
   by_cases e2 : t = d n
   ·rw [if_pos e2, e2]
   ·rw [if_neg e2]
    refine (h3 t ht).1 ⟨i, ?_, e⟩
    rcases Nat.lt_or_ge i n with h | h
    ·exact h
    ·have : i = n := by omega
     subst this; exact absurd e.symm e2
  ·rw [ln t ht, if_neg (fun e => pV n (Nat.lt_succ_self n) e.symm)]
   exact (h3 t ht).2 fun i hi => pV i (by omega)
theorem eJ {a0 a : Act} {d : Nat → Nat} {n : Nat} (hs : a.tmps.size = a0.tmps.size) (hd : a.defers = a0.defers) (hk : ∀ t, (∀ i, i < n → t ≠ d i) → a.eval (.tmp t) = a0.eval (.tmp t)) : a = ig a0 d (fun i => a.eval (.tmp (d i))) n := by
 obtain ⟨h1, h2, h3⟩ := rH a0 a d hs n
 have hev : ∀ t, t < a0.tmps.size → (ig a0 d (fun i => a.eval (.tmp (d i))) n).eval (.tmp t) = a.eval (.tmp t) := by
  intro t ht
  by_cases e : ∃ i, i < n ∧ d i = t
  ·exact (h3 t ht).1 e
  ·rw [(h3 t ht).2 (fun i hi e2 => e ⟨i, hi, e2⟩)]
   exact (hk t fun i hi e2 => e ⟨i, hi, e2.symm⟩).symm
 generalize ig a0 d (fun i => a.eval (.tmp (d i))) n = b at *
 obtain ⟨ta, da⟩ := a
 obtain ⟨tb, db⟩ := b
 simp only at h1 h2 hs hd hev
 have ht : ta = tb := by
  apply Array.ext (by omega)
  intro i ti we
  have := hev i (by omega)
  simp only [Act.eval, Array.getD_eq_getD_getElem?, ti, we, Array.getElem?_eq_getElem, Option.getD_some] at this
  exact this.symm
 rw [ht, hd, h2]
theorem fL {P : Program} {ops : Array Oper} {Q : Exit → Act → World → Prop} {id : Nat} {a0 : Act} {w0 : World} (hm : P.follows .mixedOrders = true) (he : early ops = true) (d : Nat → Nat) (V : Nat → World → Value → Prop) (S : Array Bool → World → Prop) (hS : S (Array.replicate ops.size false) w0.drew)
  (uR : ∀ (listed : Array Bool) (a : Act) (w : World) (i : Nat), Inv ops.size d V S a0 listed a w → i ∈ Region.ready .any ops listed → wpOp P ops Q i (fun a' w' => Inv ops.size d V S a0 (listed.setIfInBounds i true) a' w') a w)
  (mi : ∀ (a : Act) (w : World), a.tmps.size = a0.tmps.size → a.defers = a0.defers → (∀ t, (∀ i, i < ops.size → t ≠ d i) → a.eval (.tmp t) = a0.eval (.tmp t)) → (∃ listed : Array Bool, listed.size = ops.size ∧ S listed w ∧ ∀ i, i < ops.size → listed.getD i true = true) → (∀ i, i < ops.size → V i w (a.eval (.tmp (d i)))) → Q .normal a w) : (Code.region id ops true).wp P Q a0 w0 := by
 refine wp_region_any hm ?_
 refine ru (Inv ops.size d V S a0) uR (fun listed a w hI hr => mi a w hI.size hI.defers hI.keep ⟨listed, hI.lsize, hI.s, mS he hI.lsize hr⟩ fun i hi => hI.vals i hi (mS he hI.lsize hr i hi)) ops.size _ a0 _ ?_ (Inv.start hS)
 unfold KA
 exact Nat.le_trans List.countP_le_length (by simp)
theorem cS {P : Program} {ops : Array Oper} {Q : Exit → Act → World → Prop} {K : Act → World → Prop} {a : Act} {w : World} {i : Nat} {o : Oper} (hi : ops[i]? = some o) (hg : o.guard = none) (h : o.wp P a w K Q) : wpOp P ops Q i K a w := by
 unfold wpOp
 rw [hi]
 have : Region.wanted o (yielded ops a.tmps) = true := by simp [Region.wanted, hg]
 simp only [this, if_true]
 exact .inl h
theorem lI {P : Program} {ops : Array Oper} {Q : Exit → Act → World → Prop} {K : Act → World → Prop} {a : Act} {w : World} {i j d : Nat} {b : Bool} {o : Oper} (hi : ops[i]? = some o) (hg : o.guard = some (j, b)) (hj : (ops[j]?).bind (·.dst) = some d) (hv : a.eval (.tmp d) = .bool b) (h : o.wp P a w K Q) : wpOp P ops Q i K a w := by
 unfold wpOp
 rw [hi]
 have hd : a.tmps[d]? = some (.bool b) := by
  have h1 := ab hv
  cases e : a.tmps[d]? with
  |none => rw [e] at h1; exact absurd h1 (by simp [undef])
  |some x => rw [e] at h1; rw [show x = .bool b from h1]
 have : Region.wanted o (yielded ops a.tmps) = true := by simp [Region.wanted, hg, yielded, hj, hd]
 simp only [this, if_true]
 exact .inl h
end
def kR (B : Nat) (T : Nd) (w : World) (v : Value) : Prop := ∃ a c, v = T.val (.slice a T.len c) ∧ Row B w.heap.size w T (.slice a T.len c)
def cE (Ts : List Nd) : Nat → Nd := fun i => Ts.getD i .nil
def ng (B : Nat) (Ts : List Nd) (w : World) (v : Value) : Prop := ∃ g, v = .slice (some ⟨g, 0, none⟩) Ts.length Ts.length ∧ B ≤ g ∧ ∃ us, w.heap[g]? = some (.cells (cR (cE Ts) us Ts.length).toArray 25 (0, 0)) ∧ ∀ i, i < Ts.length → Row B g w (cE Ts i) (us i)
inductive Ty where
 |nd (T : Nd)
 |rw (Ts : List Nd)
def Ty.holds (B : Nat) : Ty → World → Value → Prop
 |.nd T => kR B T
 |.rw Ts => ng B Ts
theorem DN {B : Nat} {T : Nd} {w w' : World} {v : Value} (h : kR B T w v) (hb : Below w.heap.size w w') : kR B T w' v := by
 obtain ⟨a, c, rfl, hr⟩ := h
 exact ⟨a, c, rfl, aO (ah hb lr hr) lr hb.size⟩
theorem dk {B : Nat} {Ts : List Nd} {w w' : World} {v : Value} (h : ng B Ts w v) (hb : Below w.heap.size w w') : ng B Ts w' v := by
 obtain ⟨g, rfl, h1, us, h2, h3⟩ := h
 have hg := (Array.getElem?_eq_some_iff.1 h2).1
 exact ⟨g, rfl, h1, us, (hb.block g hg).trans h2, fun i hi => ah hb (by omega) (h3 i hi)⟩
theorem Ty.calm {B : Nat} {t : Ty} {w w' : World} {v : Value} (h : t.holds B w v) (hb : Below w.heap.size w w') : t.holds B w' v := by
 cases t with
 |nd T => exact DN h hb
 |rw Ts => exact dk h hb
theorem dD {B : Nat} {Ts : List Nd} {w : World} {v : Value} (h : ng B Ts w v) (hl : Ts.length ≤ 1000) (k n : Int) (s : ByteArray) : kR B (.mk k n s Ts.length (cE Ts)) w (.agg #[.int .i64 k, .int .i64 n, .string s, v]) := by
 obtain ⟨g, rfl, h1, us, h2, h3⟩ := h
 have hg := (Array.getElem?_eq_some_iff.1 h2).1
 have hc : ∀ o, w.cell? ⟨g, o, none⟩ = (cR (cE Ts) us Ts.length).toArray[o]? := fun o => cell_of_row _ _ _ _ _ (0, 0) h2
 refine ⟨_, _, rfl, gA h1 hg lr (by omega) fun i hi => ?_⟩
 obtain ⟨f0, f1, f2, f3⟩ := jW (cE Ts) us hi
 exact ⟨us i, by rw [hc]; simpa using f0, by rw [hc]; simpa using f1, by rw [hc]; simpa using f2, by rw [hc]; simpa using f3, aO (h3 i hi) lr (by omega)⟩
theorem wT {B : Nat} {Ts : List Nd} {w : World} {v : Value} (h : ng B Ts w v) (hl : Ts.length ≤ 1000) : ∃ g us, v = .slice (some ⟨g, 0, none⟩) Ts.length Ts.length ∧ B ≤ g ∧ g < w.heap.size ∧ Gw B (cE Ts) us (fun _ => B) (fun _ => g) Ts.length (.slice (some ⟨g, 0, none⟩) Ts.length Ts.length) w := by
 obtain ⟨g, rfl, h1, us, h2, h3⟩ := h
 have hg := (Array.getElem?_eq_some_iff.1 h2).1
 have hlen := fF (cE Ts) us Ts.length
 refine ⟨g, us, rfl, h1, hg, ⟨hlen, .inr ⟨g, Ts.length, _, rfl, h1, h2, Nat.le_refl _, by unfold maxLen; omega, by simp [hlen], by simp [← hlen]⟩⟩, fun i hi => ⟨h3 i hi, Nat.le_refl _, h1, by omega⟩, fun i hi k hk => .inr (by simp [Value.ownBlock] at hk; omega)⟩
theorem dN (B : Nat) (w : World) (k n : Int) (s : ByteArray) : kR B (aq k n s) w (.agg #[.int .i64 k, .int .i64 n, .string s, .slice none 0 0]) := ⟨none, 0, rfl, cO _ _ _ _ _ _⟩
theorem oy {B : Nat} {T : Nd} {w : World} {a : Option Addr} {c : Nat} (hB : B ≤ w.heap.size) (h : Row B w.heap.size w T (.slice a T.len c)) :
  ng B [T] (w.alloc (nO T (.slice a T.len c))) (.slice (some ⟨w.heap.size, 0, none⟩) 1 1) := by
 have hb := bO w (nO T (.slice a T.len c))
 refine ⟨_, rfl, hB, (fun i => if i = 0 then .slice a T.len c else undef), (heap_alloc_new w _).trans rfl, fun i hi => ?_⟩
 have we : i < 1 := by simpa using hi
 obtain rfl : i = 0 := by omega
 exact ah hb lr h
theorem um {B : Nat} {T0 T1 : Nd} {w : World} {a0 a1 : Option Addr} {c0 c1 : Nat} (hB : B ≤ w.heap.size) (h0 : Row B w.heap.size w T0 (.slice a0 T0.len c0)) (h1 : Row B w.heap.size w T1 (.slice a1 T1.len c1)) :
  ng B [T0, T1] (w.alloc (.cells #[.int .i64 T0.kind, .int .i64 T0.num, .string T0.name, .slice a0 T0.len c0, .int .i64 T1.kind, .int .i64 T1.num, .string T1.name, .slice a1 T1.len c1] 25)) (.slice (some ⟨w.heap.size, 0, none⟩) 2 2) := by
 have hb := bO w (.cells #[.int .i64 T0.kind, .int .i64 T0.num, .string T0.name, .slice a0 T0.len c0, .int .i64 T1.kind, .int .i64 T1.num, .string T1.name, .slice a1 T1.len c1] 25)
 refine ⟨_, rfl, hB, (fun i => if i = 0 then .slice a0 T0.len c0 else if i = 1 then .slice a1 T1.len c1 else undef), (heap_alloc_new w _).trans rfl, fun i hi => ?_⟩
 have we : i < 2 := by simpa using hi
 rcases (by omega : i = 0 ∨ i = 1) with rfl | rfl
 ·exact ah hb lr h0
 ·exact ah hb lr h1
theorem Dx {B : Nat} {T0 T1 T2 : Nd} {w : World} {a0 a1 a2 : Option Addr} {c0 c1 c2 : Nat} (hB : B ≤ w.heap.size) (h0 : Row B w.heap.size w T0 (.slice a0 T0.len c0)) (h1 : Row B w.heap.size w T1 (.slice a1 T1.len c1)) (h2 : Row B w.heap.size w T2 (.slice a2 T2.len c2)) :
  ng B [T0, T1, T2] (w.alloc (.cells #[.int .i64 T0.kind, .int .i64 T0.num, .string T0.name, .slice a0 T0.len c0, .int .i64 T1.kind, .int .i64 T1.num, .string T1.name, .slice a1 T1.len c1, .int .i64 T2.kind, .int .i64 T2.num, .string T2.name, .slice a2 T2.len c2] 25)) (.slice (some ⟨w.heap.size, 0, none⟩) 3 3) := by
 have hb := bO w (.cells #[.int .i64 T0.kind, .int .i64 T0.num, .string T0.name, .slice a0 T0.len c0, .int .i64 T1.kind, .int .i64 T1.num, .string T1.name, .slice a1 T1.len c1, .int .i64 T2.kind, .int .i64 T2.num, .string T2.name, .slice a2 T2.len c2] 25)
 refine ⟨_, rfl, hB, (fun i => if i = 0 then .slice a0 T0.len c0 else if i = 1 then .slice a1 T1.len c1 else if i = 2 then .slice a2 T2.len c2 else undef), (heap_alloc_new w _).trans rfl, fun i hi => ?_⟩
 have we : i < 3 := by simpa using hi
 rcases (by omega : i = 0 ∨ i = 1 ∨ i = 2) with rfl | rfl | rfl
 ·exact ah hb lr h0
 ·exact ah hb lr h1
 ·exact ah hb lr h2
theorem Q8 {B : Nat} {T0 T1 T2 T3 : Nd} {w : World} {a0 a1 a2 a3 : Option Addr} {c0 c1 c2 c3 : Nat} (hB : B ≤ w.heap.size) (h0 : Row B w.heap.size w T0 (.slice a0 T0.len c0)) (h1 : Row B w.heap.size w T1 (.slice a1 T1.len c1)) (h2 : Row B w.heap.size w T2 (.slice a2 T2.len c2)) (h3 : Row B w.heap.size w T3 (.slice a3 T3.len c3)) :
  ng B [T0, T1, T2, T3] (w.alloc (.cells #[.int .i64 T0.kind, .int .i64 T0.num, .string T0.name, .slice a0 T0.len c0, .int .i64 T1.kind, .int .i64 T1.num, .string T1.name, .slice a1 T1.len c1, .int .i64 T2.kind, .int .i64 T2.num, .string T2.name, .slice a2 T2.len c2, .int .i64 T3.kind, .int .i64 T3.num, .string T3.name, .slice a3 T3.len c3] 25)) (.slice (some ⟨w.heap.size, 0, none⟩) 4 4) := by
 have hb := bO w (.cells #[.int .i64 T0.kind, .int .i64 T0.num, .string T0.name, .slice a0 T0.len c0, .int .i64 T1.kind, .int .i64 T1.num, .string T1.name, .slice a1 T1.len c1, .int .i64 T2.kind, .int .i64 T2.num, .string T2.name, .slice a2 T2.len c2, .int .i64 T3.kind, .int .i64 T3.num, .string T3.name, .slice a3 T3.len c3] 25)
 refine ⟨_, rfl, hB, (fun i => if i = 0 then .slice a0 T0.len c0 else if i = 1 then .slice a1 T1.len c1 else if i = 2 then .slice a2 T2.len c2 else if i = 3 then .slice a3 T3.len c3 else undef), (heap_alloc_new w _).trans rfl, fun i hi => ?_⟩
 have we : i < 4 := by simpa using hi
 rcases (by omega : i = 0 ∨ i = 1 ∨ i = 2 ∨ i = 3) with rfl | rfl | rfl | rfl
 ·exact ah hb lr h0
 ·exact ah hb lr h1
 ·exact ah hb lr h2
 ·exact ah hb lr h3
def V11 (sb b : Nat) (i : Nat) (w : World) (v : Value) : Prop := match i with
 |0 => v = .pointer (some ⟨b, 3, none⟩)
 |1 => v = .slice none 0 0
 |2 => v = .pointer (some ⟨sb, 0, none⟩)
 |3 => ∃ q : Nat, q < 3 ∧ v = .int .i64 (q : Int)
 |4 => ∃ q : Nat, q < 3 ∧ v = .agg #[.int .i64 22, .int .i64 (q : Int), .string ⟨#[]⟩, .slice none 0 0]
 |5 => ∃ g q : Nat, q < 3 ∧ b < g ∧ v = .slice (some ⟨g, 0, none⟩) 1 1 ∧ w.heap[g]? = some (fS 22 q ⟨#[]⟩ none 0 0)
 |6 => ∃ g cap q : Nat, q < 3 ∧ (1 ≤ cap ∧ cap ≤ 9223372036854775807) ∧ b < g ∧ v = .slice (some ⟨g, 0, none⟩) 1 cap ∧ Row (b + 1) w.heap.size w (bX 26 0 ⟨#[]⟩ (aq 22 q ⟨#[]⟩)) v
 |7 => v = .pointer (some ⟨b, 3, none⟩)
 |_ => True
structure Wr (sb b : Nat) (w w' : World) : Prop where
 size : w.heap.size ≤ w'.heap.size
 block : ∀ k, k < w.heap.size → k ≠ sb → k ≠ b → w'.heap[k]? = w.heap[k]?
theorem Wr.of_kp {sb b : Nat} {w w' : World} (h : Kp sb w w') : Wr sb b w w' := ⟨h.size, fun k hk h1 _ => h.block k hk h1⟩
theorem Wr.of_calm {sb b : Nat} {w w' : World} (h : Below w.heap.size w w') : Wr sb b w w' := ⟨h.size, fun k hk _ _ => h.block k hk⟩
theorem qC {sb b : Nat} {w w' : World} (h : Wr sb b w w') (P7 : sb < b) (i : Nat) (v : Value) (hv : V11 sb b i w v) : V11 sb b i w' v := by
 match i, hv with
 |0, hv => exact hv
 |1, hv => exact hv
 |2, hv => exact hv
 |3, hv => exact hv
 |4, hv => exact hv
 |5, hv =>
  obtain ⟨g, q, h1, h2, h3, h4⟩ := hv
  exact ⟨g, q, h1, h2, h3, (h.block g (Array.getElem?_eq_some_iff.1 h4).1 (by omega) (by omega)).trans h4⟩
 |6, hv =>
  obtain ⟨g, cap, q, h1, h2, h3, h4, h5⟩ := hv
  exact ⟨g, cap, q, h1, h2, h3, h4, dc lr h.size (fun k o k1 k2 => World.cell?_of_block (a := ⟨k, o, none⟩) (h.block k k2 (by omega) (by omega))) h5⟩
 |7, hv => exact hv
 |(i + 8), _ => exact trivial
def JZ (sb b A : Nat) (w0 : World) (listed : Array Bool) (w : World) : Prop :=
 DW sb (if listed.getD 3 false = true then A + 3 else A) w0 w ∧ (listed.getD 8 false = false → w.heap[b]? = some (fS 26 0 ⟨#[]⟩ none 0 0)) ∧
 (listed.getD 8 false = true → (∀ i, i < 8 → listed.getD i false = true) ∧ ∃ (q : Nat) (g cap : Nat), q < 3 ∧ Ap sb (A + 3) w0 w b 26 0 ⟨#[]⟩ (aq 22 q ⟨#[]⟩) (.slice (some ⟨g, 0, none⟩) 1 cap))
theorem DK {v : World} {g : Nat} {k n : Int} {s : ByteArray} {a : Option Addr} {l c : Nat} (h : v.heap[g]? = some (fS k n s a l c)) : ∀ j u, ([.int .i64 k, .int .i64 n, .string s, .slice a l c] : List Value)[j]? = some u → v.cell? ((⟨g, 0, none⟩ : Addr).add j) = some u := by
 obtain ⟨h0, h1, h2, h3, _⟩ := ax h
 intro j u hj
 match j, hj with
 |0, hj => obtain rfl := Option.some.inj hj; simpa [Addr.add] using h0
 |1, hj => obtain rfl := Option.some.inj hj; simpa [Addr.add] using h1
 |2, hj => obtain rfl := Option.some.inj hj; simpa [Addr.add] using h2
 |3, hj => obtain rfl := Option.some.inj hj; simpa [Addr.add] using h3
 |j + 4, hj => simp at hj
theorem jC {P : Program} {o : Oper} {a : Act} {w w' : World} {K : Act → World → Prop} {Q : Exit → Act → World → Prop} {s x : Operand} {t : TypeId} {v1 v2 r : Value} (ho : o.op = .call { callee := .builtin .append, args := #[s, x], argTypes := #[t, t] })
  (hs : a.eval s = v1) (hx : a.eval x = v2) (hr : (Builtin.append_ #[t, t] o.type #[v1, v2]).run P w = .ok r w') (h : K (a.put o.dst r) w') : o.wp P a w K Q := by
 unfold Oper.wp execOp
 simp only [ho, resolve, invoke, builtin, Sem.run_bind, Sem.run_pure, Result.andThen_ok, List.map_toArray, List.map_cons, List.map_nil, hs, hx, hr]
 exact h
theorem Wr.of_set (sb b o : Nat) (w : World) (v : Value) : Wr sb b w (w.setCell ⟨b, o, none⟩ v) := ⟨by simp [World.setCell], fun k _ _ hk => Below.heap_setCell _ _ _ _ (by show k ≠ b; exact hk)⟩
theorem BU {sb b A : Nat} {w0 w : World} {listed : Array Bool} {g cap q : Nat} (h : JZ sb b A w0 listed w) (hl : 8 < listed.size) (bl : ∀ i, i < 8 → listed.getD i false = true) (h8 : listed.getD 8 false = false) (hb : w0.heap.size + 1 ≤ b) (hq : q < 3)
  (hr : Row (b + 1) w.heap.size w (bX 26 0 ⟨#[]⟩ (aq 22 q ⟨#[]⟩)) (.slice (some ⟨g, 0, none⟩) 1 cap)) : JZ sb b A w0 (listed.setIfInBounds 8 true) (w.setCell ⟨b, 3, none⟩ (.slice (some ⟨g, 0, none⟩) 1 cap)) := by
 obtain ⟨c0, c1, c2, c3, _⟩ := ax (h.2.1 h8)
 have dj := h.1
 rw [if_pos (bl 3 (by omega))] at dj
 have xA := bq _ _ _ (.slice (some ⟨g, 0, none⟩) 1 cap) c3
 have hw := Wr.of_set sb b 3 w (.slice (some ⟨g, 0, none⟩) 1 cap)
 have mM := dj.low
 refine ⟨?_, fun e => ?_, fun _ => ⟨fun i hi => ?_, q, g, cap, hq, ?_⟩⟩
 ·rw [bJ (by omega), if_pos (bl 3 (by omega))]; exact dj.put b 3 _ hb
 ·rw [fw hl] at e; cases e
 ·rw [bJ (by omega)]; exact bl i hi
 ·refine ⟨dj.put b 3 _ hb, ?_, ?_, ?_, ?_, ?_⟩
  ·exact dc (by omega) hw.size (fun k o k1 k2 => World.cell?_of_block (a := ⟨k, o, none⟩) (hw.block k k2 (by omega) (by omega))) hr
  ·rw [xA, if_neg (by omega)]; exact c0
  ·rw [xA, if_neg (by omega)]; exact c1
  ·rw [xA, if_neg (by omega)]; exact c2
  ·rw [xA, if_pos ⟨rfl, rfl⟩]
theorem getD_in {l : Array Bool} {j : Nat} (hj : j < l.size) (h : l.getD j true = true) : l.getD j false = true := by
 rw [Array.getD_eq_getD_getElem?, Array.getElem?_eq_getElem hj] at *
 exact h
theorem jg {sb b A : Nat} {w0 w w' : World} {listed : Array Bool} {i : Nat} (h : JZ sb b A w0 listed w) (hi : i < 8) (h3 : i ≠ 3) (h8 : listed.getD 8 false = false) (hb : Below w.heap.size w w') : JZ sb b A w0 (listed.setIfInBounds i true) w' := by
 refine ⟨?_, fun _ => bE (h.2.1 h8) hb, fun e => ?_⟩
 ·rw [bJ (by omega)]; exact h.1.calm hb
 ·rw [bJ (by omega), h8] at e; cases e
theorem FK {sb b A : Nat} {w0 w w' : World} {listed : Array Bool} (h : JZ sb b A w0 listed w) (hl : 3 < listed.size) (h8 : listed.getD 8 false = false) (hs : Src sb (A + 3) w') (hk : Kp sb w w') (dE : b ≠ sb) : JZ sb b A w0 (listed.setIfInBounds 3 true) w' := by
 refine ⟨?_, fun _ => cm (h.2.1 h8) dE hk, fun e => ?_⟩
 ·rw [fw hl, if_pos rfl]; exact h.1.step hs hk
 ·rw [bJ (by omega), h8] at e; cases e
theorem JT {b g q cap : Nat} {v : World} (hb : b ≤ v.heap.size) (hc : 1 ≤ cap ∧ cap ≤ 9223372036854775807) :
  Row (b + 1) (v.drew.alloc (.cells (([.int .i64 22, .int .i64 (q : Int), .string ⟨#[]⟩, .slice none 0 0] : List Value).toArray ++ Builtin.zeroCells (Value.agg #[.int .i64 0, .int .i64 0, .string ⟨#[]⟩, .slice none 0 0]).cells (cap - 1)) 25)).heap.size
   (v.drew.alloc (.cells (([.int .i64 22, .int .i64 (q : Int), .string ⟨#[]⟩, .slice none 0 0] : List Value).toArray ++ Builtin.zeroCells (Value.agg #[.int .i64 0, .int .i64 0, .string ⟨#[]⟩, .slice none 0 0]).cells (cap - 1)) 25)) (bX 26 0 ⟨#[]⟩ (aq 22 q ⟨#[]⟩)) (.slice (some ⟨v.heap.size, 0, none⟩) 1 cap) ∨ b = v.heap.size := by
 by_cases e : b = v.heap.size
 ·exact .inr e
 ·left
  have hn := heap_alloc_new v.drew (.cells (([.int .i64 22, .int .i64 (q : Int), .string ⟨#[]⟩, .slice none 0 0] : List Value).toArray ++ Builtin.zeroCells (Value.agg #[.int .i64 0, .int .i64 0, .string ⟨#[]⟩, .slice none 0 0]).cells (cap - 1)) 25)
  rw [show v.drew.heap.size = v.heap.size from rfl] at hn
  refine gA (by omega) (by rw [World.size_alloc]; exact Nat.lt_succ_self _) hc.1 hc.2 fun i hi => ?_
  obtain rfl : i = 0 := by omega
  have bM : ∀ o, o < 4 → (v.drew.alloc (.cells (([.int .i64 22, .int .i64 (q : Int), .string ⟨#[]⟩, .slice none 0 0] : List Value).toArray ++ Builtin.zeroCells (Value.agg #[.int .i64 0, .int .i64 0, .string ⟨#[]⟩, .slice none 0 0]).cells (cap - 1)) 25)).cell? ⟨v.heap.size, o, none⟩ = (#[Value.int .i64 22, .int .i64 (q : Int), .string ⟨#[]⟩, .slice none 0 0])[o]? := by
   intro o ho
   rw [cell_of_row _ _ _ _ _ (0, 0) hn, Array.getElem?_append, if_pos (by simpa using ho)]
  refine ⟨.slice none 0 0, ?_, ?_, ?_, ?_, cO _ _ _ _ _ _⟩
  ·exact (bM 0 (by omega)).trans rfl
  ·exact (bM 1 (by omega)).trans rfl
  ·exact (bM 2 (by omega)).trans rfl
  ·exact (bM 3 (by omega)).trans rfl
section
open Go
theorem jP {l : Array Bool} {i j : Nat} (h : l.getD j false = true) : (l.setIfInBounds i true).getD j false = true := by
 by_cases e : i = j
 ·subst e
  refine fw ?_
  rcases Nat.lt_or_ge i l.size with h' | h'
  ·exact h'
  ·rw [Array.getD_eq_getD_getElem?, Array.getElem?_eq_none h'] at h; simp at h
 ·rw [bJ e]; exact h
theorem su {l : Array Bool} {i : Nat} (h : l.getD i true = false) (h' : l.getD i false = true) : False := by
 rw [nt h'] at h; cases h
def S2 (p m : Nat) (W0 W1 W2 : World) (l : Array Bool) (v : World) : Prop :=
 v = (if l.getD (p + 1) false = true then W2 else if l.getD p false = true then W1 else W0) ∧ (l.getD p false = true → ∀ i, i < m → l.getD i false = true) ∧ (l.getD (p + 1) false = true → ∀ i, i < p + 1 → l.getD i false = true)
theorem S2.start (n p m : Nat) (W0 W1 W2 : World) : S2 p m W0 W1 W2 (Array.replicate n false) W0 := by
 have h : ∀ j, (Array.replicate n false).getD j false = false := fun j => by
  rw [Array.getD_eq_getD_getElem?, Array.getElem?_replicate]; split <;> rfl
 exact ⟨(by rw [h, h]; simp), (fun e => absurd e (by rw [h]; simp)), (fun e => absurd e (by rw [h]; simp))⟩
theorem S2.low {p m : Nat} {W0 W1 W2 : World} {l : Array Bool} {v : World} (h : S2 p m W0 W1 W2 l v) {i : Nat} (hi : i < m) (hm : m ≤ p) (hu : l.getD i true = false) : v = W0 := by
 have h1 : ¬ l.getD p false = true := fun e => su hu (h.2.1 e i hi)
 have h2 : ¬ l.getD (p + 1) false = true := fun e => su hu (h.2.2 e i (by omega))
 rw [h.1, if_neg h2, if_neg h1]
theorem S2.mid {p m : Nat} {W0 W1 W2 : World} {l : Array Bool} {v : World} (h : S2 p m W0 W1 W2 l v) {i : Nat} (hi : i < p + 1) (hu : l.getD i true = false) : v = W0 ∨ v = W1 := by
 have h2 : ¬ l.getD (p + 1) false = true := fun e => su hu (h.2.2 e i hi)
 rw [h.1, if_neg h2]
 by_cases e : l.getD p false = true
 ·rw [if_pos e]; exact .inr rfl
 ·rw [if_neg e]; exact .inl rfl
theorem S2.put {p m : Nat} {W0 W1 W2 : World} {l : Array Bool} {v : World} (h : S2 p m W0 W1 W2 l v) {i : Nat} (hi : i < p) : S2 p m W0 W1 W2 (l.setIfInBounds i true) v := by
 unfold S2
 rw [bJ (by omega : i ≠ p), bJ (by omega : i ≠ p + 1)]
 exact ⟨h.1, fun e j hj => jP (h.2.1 e j hj), fun e j hj => jP (h.2.2 e j hj)⟩
theorem S2.first {p m : Nat} {W0 W1 W2 : World} {l : Array Bool} {v : World} (h : S2 p m W0 W1 W2 l v) (hs : p < l.size) (hu : l.getD p true = false) (hd : ∀ i, i < m → l.getD i false = true) : v = W0 ∧ S2 p m W0 W1 W2 (l.setIfInBounds p true) W1 := by
 have h1 : ¬ l.getD p false = true := fun e => su hu e
 have h2 : ¬ l.getD (p + 1) false = true := fun e => su hu (h.2.2 e p (by omega))
 refine ⟨by rw [h.1, if_neg h2, if_neg h1], ?_⟩
 unfold S2
 rw [bJ (by omega : p ≠ p + 1), fw hs, if_neg h2]
 exact ⟨by simp, fun _ j hj => jP (hd j hj), fun e => absurd e h2⟩
theorem S2.done {p m : Nat} {W0 W1 W2 : World} {l : Array Bool} {v : World} (h : S2 p m W0 W1 W2 l v) (hd : l.getD (p + 1) false = true) : v = W2 := by rw [h.1, if_pos hd]
def S1 (p : Nat) (R R' : World → Prop) (l : Array Bool) (v : World) : Prop := (l.getD p false = true → ∀ i, i < p → l.getD i false = true) ∧ (l.getD p false = false → R v) ∧ (l.getD p false = true → R' v)
theorem S1.start (n p : Nat) {R R' : World → Prop} {v : World} (h : R v) : S1 p R R' (Array.replicate n false) v := by
 have e : ∀ j, (Array.replicate n false).getD j false = false := fun j => by
  rw [Array.getD_eq_getD_getElem?, Array.getElem?_replicate]; split <;> rfl
 exact ⟨(fun h => absurd h (by rw [e]; simp)), (fun _ => h), (fun h => absurd h (by rw [e]; simp))⟩
theorem S1.low {p : Nat} {R R' : World → Prop} {l : Array Bool} {v : World} (h : S1 p R R' l v) {i : Nat} (hi : i < p) (hu : l.getD i true = false) : l.getD p false = false ∧ R v := by
 cases e : l.getD p false with
 |true => exact (su hu (h.1 e i hi)).elim
 |false => exact ⟨rfl, h.2.1 e⟩
theorem S1.put {p : Nat} {R R' : World → Prop} {l : Array Bool} {v v' : World} (h : S1 p R R' l v) {i : Nat} (hi : i < p) (hu : l.getD i true = false) (hv : R v') : S1 p R R' (l.setIfInBounds i true) v' := by
 have h0 := (h.low hi hu).1
 unfold S1
 rw [bJ (by omega : i ≠ p), h0]
 exact ⟨(fun e => by cases e), (fun _ => hv), (fun e => by cases e)⟩
theorem S1.last {p : Nat} {R R' : World → Prop} {l : Array Bool} {v : World} (h : S1 p R R' l v) (hs : p < l.size) (hu : l.getD p true = false) (hd : ∀ i, i < p → l.getD i false = true) : R v ∧ ∀ v', R' v' → S1 p R R' (l.setIfInBounds p true) v' := by
 refine ⟨h.2.1 (cC hu), fun v' hv => ?_⟩
 unfold S1
 rw [fw hs]
 exact ⟨(fun _ j hj => jP (hd j hj)), (fun e => by cases e), (fun _ => hv)⟩
def Vf (n : Nat) (f : Nat → Value) (i : Nat) (_ : World) (x : Value) : Prop := i < n → x = f i
end
def KG (M : Nd) (u : Value) : Obj := .cells #[.int .i64 M.kind, .int .i64 M.num, .string M.name, u] 25 (0, 0)
def Qs (lo sb : Nat) (M : Nd) (u : Value) (i : Nat) (w : World) (v : Value) : Prop := match i with
 |0 => v = .pointer (some ⟨sb, 0, none⟩)
 |1 => ∃ g, lo ≤ g ∧ v = .slice (some ⟨g, 0, none⟩) 2 2 ∧ ∀ i, i < 2 → ∃ s, vM s ∧ w.cell? ⟨g, 0 + i, none⟩ = some (.string s)
 |2 => ∃ s, vM s ∧ v = .string s
 |3 => v = M.val u
 |4 => ∃ g, lo ≤ g ∧ v = .slice (some ⟨g, 0, none⟩) 1 1 ∧ w.heap[g]? = some (KG M u)
 |5 => ∃ s g, vM s ∧ lo ≤ g ∧ v = .agg #[.int .i64 5, .int .i64 0, .string s, .slice (some ⟨g, 0, none⟩) 1 1] ∧ w.heap[g]? = some (KG M u)
 |_ => True
theorem ky {lo sb r : Nat} {M : Nd} {u : Value} {w w' : World} (h : Wr sb r w w') (hs : sb < lo) (hr : r < lo) (i : Nat) (v : Value) (hv : Qs lo sb M u i w v) : Qs lo sb M u i w' v := by
 match i, hv with
 |0, hv => exact hv
 |1, ⟨g, h1, h2, h3⟩ =>
  refine ⟨g, h1, h2, fun i hi => ?_⟩
  obtain ⟨s, hp, hc⟩ := h3 i hi
  exact ⟨s, hp, (World.cell?_of_block (a := ⟨g, 0 + i, none⟩) (h.block g (iV hc) (by omega) (by omega))).trans hc⟩
 |2, hv => exact hv
 |3, hv => exact hv
 |4, ⟨g, h1, h2, h3⟩ => exact ⟨g, h1, h2, (h.block g (Array.getElem?_eq_some_iff.1 h3).1 (by omega) (by omega)).trans h3⟩
 |5, ⟨s, g, h0, h1, h2, h3⟩ => exact ⟨s, g, h0, h1, h2, (h.block g (Array.getElem?_eq_some_iff.1 h3).1 (by omega) (by omega)).trans h3⟩
 |(i + 6), _ => exact trivial
def XZ (sb A : Nat) (w W v : World) : Prop := DW sb A w v ∧ Kp sb W v
def R12' (sb A : Nat) (w W : World) (M : Nd) (u : Value) (v : World) : Prop := ∃ v0 s g, XZ sb A w W v0 ∧ vM s ∧ w.heap.size + 1 ≤ g ∧ v0.heap[g]? = some (KG M u) ∧ v = fe v0 w.heap.size 5 0 s (.slice (some ⟨g, 0, none⟩) 1 1)
def S12 (sb A : Nat) (w W : World) (M : Nd) (u : Value) (l : Array Bool) (v : World) : Prop :=
 S1 6 (XZ sb (A + 3) w W) (R12' sb (A + 3) w W M u) l v ∧ (l.getD 2 false = false → Src sb A v)
theorem S12.start {sb A : Nat} {w W : World} (M : Nd) (u : Value) (h : DW sb A w W) : S12 sb A w W M u (Array.replicate 7 false) W.drew :=
 ⟨S1.start _ _ ⟨⟨(h.drew.src).mono (by omega), h.drew.kp, h.low⟩, bG ((Below.refl W.heap.size W).drew) _⟩, fun _ => h.drew.src⟩
theorem S12.calm {sb A : Nat} {w W : World} {M : Nd} {u : Value} {l : Array Bool} {v v' : World} (h : S12 sb A w W M u l v) {i : Nat} (hi : i < 6) (h2 : i ≠ 2) (hu : l.getD i true = false) (hb : Below v.heap.size v v') : S12 sb A w W M u (l.setIfInBounds i true) v' := by
 obtain ⟨_, hd, hk⟩ := h.1.low hi hu
 refine ⟨h.1.put hi hu ⟨hd.calm hb, hk.trans (bG hb _) (fun _ _ h => h)⟩, fun e => ?_⟩
 rw [bJ h2] at e
 exact (h.2 e).calm hb
theorem S12.pick {sb A : Nat} {w W : World} {M : Nd} {u : Value} {l : Array Bool} {v v' : World} (h : S12 sb A w W M u l v) (hl : 2 < l.size) (hu : l.getD 2 true = false) (hs : Src sb (A + 3) v') (hk : Kp sb v v') : S12 sb A w W M u (l.setIfInBounds 2 true) v' := by
 obtain ⟨_, hd, Ch⟩ := h.1.low (show 2 < 6 by omega) hu
 refine ⟨h.1.put (by omega) hu ⟨hd.step hs hk, Ch.trans hk (fun _ _ h => h)⟩, fun e => ?_⟩
 rw [fw hl] at e
 cases e
theorem S12.store {sb A : Nat} {w W : World} {M : Nd} {u : Value} {l : Array Bool} {v : World} (h : S12 sb A w W M u l v) (hl : 6 < l.size) (hu : l.getD 6 true = false) (hd : ∀ i, i < 6 → l.getD i false = true) {s : ByteArray} {g : Nat} (hs : vM s) (hg : w.heap.size + 1 ≤ g) (hb : v.heap[g]? = some (KG M u)) :
  S12 sb A w W M u (l.setIfInBounds 6 true) (fe v w.heap.size 5 0 s (.slice (some ⟨g, 0, none⟩) 1 1)) := by
 obtain ⟨h1, h2⟩ := h.1.last hl hu hd
 refine ⟨h2 _ ⟨v, s, g, h1, hs, hg, hb, rfl⟩, fun e => ?_⟩
 rw [bJ (by omega : (6 : Nat) ≠ 2), hd 2 (by omega)] at e
 cases e
theorem Wr.of_put (sb b : Nat) (W : World) (k n : Int) (s : ByteArray) (u : Value) : Wr sb b W (fe W b k n s u) := ⟨by rw [fb]; exact Nat.le_refl _, fun i _ _ hi => eh W b k n s u i hi⟩
section
open Go Go.RowKit
def Shut (ops : Array Oper) (l : Array Bool) : Prop := ∀ i o, l.getD i false = true → ops[i]? = some o → ∀ e ∈ o.after, Region.binds .any e = true → l.getD e.on false = true
def anc (ops : Array Oper) : Nat → Nat → Nat → Bool
 |0, i, j => i == j
 |f + 1, i, j => i == j || match ops[i]? with | some o => o.after.any (fun e => Region.binds .any e && anc ops f e.on j) | none => false
theorem Shut.anc {ops : Array Oper} {l : Array Bool} (h : Shut ops l) : ∀ {f i j : Nat}, anc ops f i j = true → l.getD i false = true → l.getD j false = true
 |0, i, j, ha, hi => by
  have : i = j := by simpa [Go.Proofs.YteaocammohcgoaaGreatDoor.anc] using ha
  subst this; exact hi
 |f + 1, i, j, ha, hi => by
  unfold Go.Proofs.YteaocammohcgoaaGreatDoor.anc at ha
  rw [Bool.or_eq_true] at ha
  rcases ha with ha | ha
  ·have : i = j := by simpa using ha
   subst this; exact hi
  ·cases ho : ops[i]? with
   |none => rw [ho] at ha; cases ha
   |some o =>
    rw [ho] at ha
    simp only [Array.any_eq_true'] at ha
    obtain ⟨e, he, hx⟩ := ha
    rw [Bool.and_eq_true] at hx
    exact h.anc hx.2 (h i o hi ho e he hx.1)
structure Inv3 (ops : Array Oper) (d : Nat → Nat) (V : Nat → World → Value → Prop) (S : Array Bool → World → Prop) (a0 : Act) (l : Array Bool) (a : Act) (w : World) : Prop where
 lsize : l.size = ops.size
 size : a.tmps.size = a0.tmps.size
 keep : ∀ t, (∀ i, i < ops.size → t ≠ d i) → a.eval (.tmp t) = a0.eval (.tmp t)
 defers : a.defers = a0.defers
 shut : Shut ops l
 s : S l w
 vals : ∀ i, i < ops.size → l.getD i false = true → V i w (a.eval (.tmp (d i)))
theorem jQ (n i : Nat) : (Array.replicate n false).getD i false = false := by
 rw [Array.getD_eq_getD_getElem?, Array.getElem?_replicate]; split <;> rfl
theorem uj {ops : Array Oper} {l : Array Bool} {i : Nat} (h : Shut ops l) (hr : i ∈ Region.ready .any ops l) : Shut ops (l.setIfInBounds i true) := by
 intro k o hk ho e he hb
 by_cases ek : i = k
 ·subst ek
  exact jP (nR hr ho e he hb)
 ·rw [bJ ek] at hk
  exact jP (h k o hk ho e he hb)
theorem Inv3.put {ops : Array Oper} {d : Nat → Nat} {V : Nat → World → Value → Prop} {S : Array Bool → World → Prop} {a0 : Act} {l : Array Bool} {a : Act} {w w' : World} (h : Inv3 ops d V S a0 l a w) (hd : ∀ i j, i < ops.size → j < ops.size → d i = d j → i = j) {i : Nat} (hr : i ∈ Region.ready .any ops l) (b8 : d i < a0.tmps.size)
  (hV : ∀ j v, l.getD j false = true → V j w v → V j w' v) (hS : S (l.setIfInBounds i true) w') {v : Value} (hv : V i w' v) : Inv3 ops d V S a0 (l.setIfInBounds i true) (a.put (some (d i)) v) w' := by
 have hi := (bj hr).1
 have ln : ∀ t, (a.put (some (d i)) v).eval (.tmp t) = if t = d i then v else a.eval (.tmp t) := by
  exact bW0
 refine ⟨by simp [h.lsize], by show (a.tmps.setIfInBounds (d i) v).size = _; rw [Array.size_setIfInBounds]; exact h.size, fun t ht => ?_, h.defers, uj h.shut hr, hS, fun j hj hl => ?_⟩
 ·rw [ln, if_neg (ht i hi)]; exact h.keep t ht
 ·rw [ln]
  by_cases e : d j = d i
  ·rw [if_pos e, hd j i hj hi e]
   exact hv
  ·rw [if_neg e]
   have dE : ¬ i = j := fun x => e (by rw [x])
   rw [bJ dE] at hl
   exact hV j _ hl (h.vals j hj hl)
theorem Inv3.none {ops : Array Oper} {d : Nat → Nat} {V : Nat → World → Value → Prop} {S : Array Bool → World → Prop} {a0 : Act} {l : Array Bool} {a : Act} {w w' : World} (h : Inv3 ops d V S a0 l a w) {i : Nat} (hr : i ∈ Region.ready .any ops l)
  (hV : ∀ j v, l.getD j false = true → V j w v → V j w' v) (hS : S (l.setIfInBounds i true) w') (hv : ∀ v, V i w' v) : Inv3 ops d V S a0 (l.setIfInBounds i true) a w' := by
 refine ⟨by simp [h.lsize], h.size, h.keep, h.defers, uj h.shut hr, hS, fun j hj hl => ?_⟩
 by_cases e : i = j
 ·subst e; exact hv _
 ·rw [bJ e] at hl
  exact hV j _ hl (h.vals j hj hl)
theorem cQ {P : Program} {ops : Array Oper} {Q : Exit → Act → World → Prop} {id : Nat} {a0 : Act} {w0 : World} (hm : P.follows .mixedOrders = true) (he : early ops = true) (d : Nat → Nat) (V : Nat → World → Value → Prop) (S : Array Bool → World → Prop) (hS : S (Array.replicate ops.size false) w0.drew)
  (uR : ∀ (l : Array Bool) (a : Act) (w : World) (i : Nat), Inv3 ops d V S a0 l a w → i ∈ Region.ready .any ops l → wpOp P ops Q i (fun a' w' => Inv3 ops d V S a0 (l.setIfInBounds i true) a' w') a w)
  (mi : ∀ (a : Act) (w : World), a.tmps.size = a0.tmps.size → a.defers = a0.defers → (∀ t, (∀ i, i < ops.size → t ≠ d i) → a.eval (.tmp t) = a0.eval (.tmp t)) → (∃ l : Array Bool, S l w ∧ ∀ i, i < ops.size → l.getD i false = true) → (∀ i, i < ops.size → V i w (a.eval (.tmp (d i)))) → Q .normal a w) : (Code.region id ops true).wp P Q a0 w0 := by
 refine wp_region_any hm ?_
 refine ru (Inv3 ops d V S a0) uR (fun l a w hI hr => ?_) ops.size _ a0 _ ?_ ⟨by simp, rfl, fun _ _ => rfl, rfl, fun i o hi => (by rw [jQ] at hi; cases hi), hS, fun i hi hl => (by rw [jQ] at hl; cases hl)⟩
 ·have hal := fun i (hi : i < ops.size) => getD_in (by rw [hI.lsize]; exact hi) (mS he hI.lsize hr i hi)
  exact mi a w hI.size hI.defers hI.keep ⟨l, hI.s, hal⟩ fun i hi => hI.vals i hi (hal i hi)
 ·unfold KA
  exact Nat.le_trans List.countP_le_length (by simp)
structure Wn (lo : Nat) (w w' : World) : Prop where
 size : w.heap.size ≤ w'.heap.size
 block : ∀ k, lo ≤ k → k < w.heap.size → w'.heap[k]? = w.heap[k]?
theorem Wn.refl (lo : Nat) (w : World) : Wn lo w w := ⟨Nat.le_refl _, fun _ _ _ => rfl⟩
theorem Wn.of_kp {sb lo : Nat} {w w' : World} (h : Kp sb w w') (hs : sb < lo) : Wn lo w w' := ⟨h.size, fun k h1 h2 => h.block k h2 (by omega)⟩
theorem Wn.of_calm {lo : Nat} {w w' : World} (h : Below w.heap.size w w') : Wn lo w w' := ⟨h.size, fun k _ h2 => h.block k h2⟩
theorem Wn.of_grown {lo : Nat} {w w' : World} {row : Option Nat} (h : w.grownBy w' row) (hr : ∀ k, row = some k → k < lo) : Wn lo w w' := ⟨h.size, fun k h1 h2 => h.block k h2 (fun e => by have := hr k e.symm; omega)⟩
theorem Wn.of_set {lo b o : Nat} {w : World} {x : Value} (h : b < lo) : Wn lo w (w.setCell ⟨b, o, none⟩ x) := ⟨by simp [World.setCell], fun k h1 _ => Below.heap_setCell _ _ _ _ (by show k ≠ b; omega)⟩
theorem Wn.row {lo : Nat} {w w' : World} (h : Wn lo w w') {T : Nd} {v : Value} (hr : Row lo w.heap.size w T v) : Row lo w'.heap.size w' T v :=
 dc lr h.size (fun g o h1 h2 => World.cell?_of_block (a := ⟨g, o, none⟩) (h.block g h1 h2)) hr
def TV (lo : Nat) (P : Nd → Prop) (w : World) (x : Value) : Prop := ∃ T a c, P T ∧ x = T.val (.slice a T.len c) ∧ Row lo w.heap.size w T (.slice a T.len c)
def LV (lo : Nat) (P : Nd → Prop) (w : World) (x : Value) : Prop := ∃ T a c, P T ∧ x = .slice a T.len c ∧ Row lo w.heap.size w T (.slice a T.len c)
theorem TV.stable {lo : Nat} {P : Nd → Prop} {w w' : World} {x : Value} (h : Wn lo w w') (hx : TV lo P w x) : TV lo P w' x := by
 obtain ⟨T, a, c, h1, h2, h3⟩ := hx; exact ⟨T, a, c, h1, h2, h.row h3⟩
theorem LV.stable {lo : Nat} {P : Nd → Prop} {w w' : World} {x : Value} (h : Wn lo w w') (hx : LV lo P w x) : LV lo P w' x := by
 obtain ⟨T, a, c, h1, h2, h3⟩ := hx; exact ⟨T, a, c, h1, h2, h.row h3⟩
theorem TV.leaf (lo : Nat) {P : Nd → Prop} (w : World) {k n : Int} {s : ByteArray} (h : P (aq k n s)) : TV lo P w (.agg #[.int .i64 k, .int .i64 n, .string s, .slice none 0 0]) :=
 ⟨aq k n s, none, 0, h, rfl, cO _ _ _ _ _ _⟩
theorem TV.node {lo : Nat} {P Q : Nd → Prop} {w : World} {a : Option Addr} {c : Nat} {T : Nd} (k n : Int) (s : ByteArray) (hq : Q (.mk k n s T.len T.kids)) (hr : Row lo w.heap.size w T (.slice a T.len c)) : TV lo Q w (.agg #[.int .i64 k, .int .i64 n, .string s, .slice a T.len c]) :=
 ⟨.mk k n s T.len T.kids, a, c, hq, rfl, (aH (T := .mk k n s T.len T.kids)).2 ((aH (T := T)).1 hr)⟩
theorem LV.one {lo : Nat} {w : World} {A : Nd} {u : Value} (fy : lo ≤ w.heap.size) (h : Row lo w.heap.size w A u) : Row lo (w.alloc (.cells #[.int .i64 A.kind, .int .i64 A.num, .string A.name, u] 25)).heap.size (w.alloc (.cells #[.int .i64 A.kind, .int .i64 A.num, .string A.name, u] 25)) (bX 0 0 ⟨#[]⟩ A) (.slice (some ⟨w.heap.size, 0, none⟩) 1 1) := by
 have hr := (Wn.of_calm (lo := lo) (bO w (.cells #[.int .i64 A.kind, .int .i64 A.num, .string A.name, u] 25))).row h
 refine gA fy (by simp) lr (by omega) fun i hi => ?_
 obtain rfl : i = 0 := by omega
 refine ⟨u, ?_, ?_, ?_, ?_, hr⟩ <;> simp [go_sem]
theorem LV.two {lo : Nat} {w : World} {A B : Nd} {u v : Value} (fy : lo ≤ w.heap.size) (h : Row lo w.heap.size w A u) (h' : Row lo w.heap.size w B v) : Row lo (w.alloc (.cells #[.int .i64 A.kind, .int .i64 A.num, .string A.name, u, .int .i64 B.kind, .int .i64 B.num, .string B.name, v] 25)).heap.size (w.alloc (.cells #[.int .i64 A.kind, .int .i64 A.num, .string A.name, u, .int .i64 B.kind, .int .i64 B.num, .string B.name, v] 25)) (dR 0 0 ⟨#[]⟩ A B) (.slice (some ⟨w.heap.size, 0, none⟩) 2 2) := by
 have hw := Wn.of_calm (lo := lo) (bO w (.cells #[.int .i64 A.kind, .int .i64 A.num, .string A.name, u, .int .i64 B.kind, .int .i64 B.num, .string B.name, v] 25))
 refine gA fy (by simp) lr (by omega) fun i hi => ?_
 have : i = 0 ∨ i = 1 := by omega
 rcases this with rfl | rfl
 ·refine ⟨u, ?_, ?_, ?_, ?_, hw.row h⟩ <;> simp [go_sem]
 ·refine ⟨v, ?_, ?_, ?_, ?_, hw.row h'⟩ <;> simp [go_sem]
def jD (k n : Int) (s : ByteArray) (A B C : Nd) : Nd := .mk k n s 3 (fun i => if i = 0 then A else if i = 1 then B else C)
theorem LV.three {lo : Nat} {w : World} {A B C : Nd} {u v x : Value} (fy : lo ≤ w.heap.size) (h : Row lo w.heap.size w A u) (h' : Row lo w.heap.size w B v) (Qm : Row lo w.heap.size w C x) : Row lo (w.alloc (.cells #[.int .i64 A.kind, .int .i64 A.num, .string A.name, u, .int .i64 B.kind, .int .i64 B.num, .string B.name, v, .int .i64 C.kind, .int .i64 C.num, .string C.name, x] 25)).heap.size (w.alloc (.cells #[.int .i64 A.kind, .int .i64 A.num, .string A.name, u, .int .i64 B.kind, .int .i64 B.num, .string B.name, v, .int .i64 C.kind, .int .i64 C.num, .string C.name, x] 25)) (jD 0 0 ⟨#[]⟩ A B C) (.slice (some ⟨w.heap.size, 0, none⟩) 3 3) := by
 have hw := Wn.of_calm (lo := lo) (bO w (.cells #[.int .i64 A.kind, .int .i64 A.num, .string A.name, u, .int .i64 B.kind, .int .i64 B.num, .string B.name, v, .int .i64 C.kind, .int .i64 C.num, .string C.name, x] 25))
 refine gA fy (by simp) lr (by omega) fun i hi => ?_
 have : i = 0 ∨ i = 1 ∨ i = 2 := by omega
 rcases this with rfl | rfl | rfl
 ·refine ⟨u, ?_, ?_, ?_, ?_, hw.row h⟩ <;> simp [go_sem]
 ·refine ⟨v, ?_, ?_, ?_, ?_, hw.row h'⟩ <;> simp [go_sem]
 ·refine ⟨x, ?_, ?_, ?_, ?_, hw.row Qm⟩ <;> simp [go_sem]
def qJ (asks : Nat → Nat) (l : Array Bool) : Nat → Nat
 |0 => 0
 |n + 1 => qJ asks l n + (if l.getD n false = true then asks n else 0)
theorem iS (asks : Nat → Nat) (l : Array Bool) : ∀ n, qJ asks l n ≤ ar asks n
 |0 => Nat.le_refl _
 |n + 1 => by have := iS asks l n; simp only [qJ, ar]; split <;> omega
theorem o5 {asks : Nat → Nat} {l : Array Bool} {i : Nat} (hi : i < l.size) (hu : l.getD i false = false) : ∀ {n : Nat}, qJ asks (l.setIfInBounds i true) n = qJ asks l n + (if i < n then asks i else 0)
 |0 => by simp [qJ]
 |n + 1 => by
  have ih := o5 (asks := asks) hi hu (n := n)
  simp only [qJ]
  rw [ih]
  by_cases e : i = n
  ·subst e
   rw [fw hi, hu, if_neg (Nat.lt_irrefl _), if_pos (Nat.lt_succ_self _)]
   simp
  ·rw [bJ e]
   by_cases h : i < n
   ·have e1 : (if i < n then asks i else 0) = asks i := if_pos h
    have e2 : (if i < n + 1 then asks i else 0) = asks i := if_pos (by omega)
    rw [e1, e2]; omega
   ·have e1 : (if i < n then asks i else 0) = 0 := if_neg h
    have e2 : (if i < n + 1 then asks i else 0) = 0 := if_neg (by omega)
    rw [e1, e2]; omega
theorem sJ {asks : Nat → Nat} {l : Array Bool} {i : Nat} (hu : l.getD i false = false) : ∀ {n : Nat}, i < n → qJ asks l n + asks i ≤ ar asks n
 |n + 1, h => by
  simp only [qJ, ar]
  by_cases e : i = n
  ·subst e
   have := iS asks l i
   rw [hu]; simp; omega
  ·have := sJ hu (n := n) (asks := asks) (by omega)
   split <;> omega
theorem CO (asks : Nat → Nat) (n k : Nat) : qJ asks (Array.replicate k false) n = 0 := by
 induction n with
 |zero => rfl
 |succ n ih => simp only [qJ]; rw [ih, jQ]; simp
end
section
open Go Go.RowKit
theorem uo {lo hi : Nat} {w : World} {T : Nd} {a : Option Addr} {c : Nat} (h : Row lo hi w T (.slice a T.len c)) (hn : T.len ≠ 0) : ∃ g off us, a = some ⟨g, off, none⟩ ∧ lo ≤ g ∧ g < hi ∧ (∀ j u, (cR T.kids us T.len)[j]? = some u → w.cell? ⟨g, off + j, none⟩ = some u) ∧ ∀ i, i < T.len → (∃ b d, us i = .slice b (T.kids i).len d) ∧ Row lo hi w (T.kids i) (us i) := by
 obtain ⟨a', c', he, _, hq⟩ := aH.1 h
 injection he with e1 _ e3
 subst e1 e3
 rcases hq with h0 | ⟨g, off, rfl, h1, h2, h3⟩
 ·exact absurd h0 hn
 have hin : Inhabited Value := ⟨undef⟩
 obtain ⟨us, Ep⟩ := Go.Deep.choose_lt (n := T.len) h3
 refine ⟨g, off, us, rfl, h1, h2, fun j u hj => ?_, fun i hi => ⟨?_, (Ep i hi).2.2.2.2⟩⟩
 ·have hl := fF T.kids us T.len
  have tT : j < T.len * 4 := by rw [← hl]; exact (List.getElem?_eq_some_iff.1 hj).1
  obtain ⟨q, r, P9, rfl⟩ : ∃ q r, r < 4 ∧ j = q * 4 + r := ⟨j / 4, j % 4, by omega, by omega⟩
  obtain ⟨c0, c1, c2, c3, _⟩ := Ep q (by omega)
  obtain ⟨f0, f1, f2, f3⟩ := jW T.kids us (show q < T.len by omega)
  rcases (by omega : r = 0 ∨ r = 1 ∨ r = 2 ∨ r = 3) with rfl | rfl | rfl | rfl
  ·rw [Nat.add_zero] at hj ⊢; rw [hj] at f0; rw [Option.some.inj f0]; exact c0
  ·rw [hj] at f1; rw [Option.some.inj f1, ← Nat.add_assoc]; exact c1
  ·rw [hj] at f2; rw [Option.some.inj f2, ← Nat.add_assoc]; exact c2
  ·rw [hj] at f3; rw [Option.some.inj f3, ← Nat.add_assoc]; exact c3
 ·obtain ⟨b, d, hb, _⟩ := aH.1 (Ep i hi).2.2.2.2
  exact ⟨b, d, hb⟩
def cJ {α : Type} (f : Nat → α) (j : Nat) (g : Nat → α) : Nat → α := fun i => if i < j then f i else g (i - j)
theorem bw {α : Type} (f : Nat → α) {j i : Nat} (g : Nat → α) (h : i < j) : cJ f j g i = f i := if_pos h
theorem bW {α : Type} (f : Nat → α) {j i : Nat} (g : Nat → α) (h : j ≤ i) : cJ f j g i = g (i - j) := if_neg (by omega)
theorem mO (Ts Us : Nat → Nd) (us vs : Nat → Value) (j : Nat) : ∀ m, cR (cJ Ts j Us) (cJ us j vs) (j + m) = cR Ts us j ++ cR Us vs m
 |0 => by
  have : ∀ k, k ≤ j → cR (cJ Ts j Us) (cJ us j vs) k = cR Ts us k := by
   intro k
   induction k with
   |zero => intro _; rfl
   |succ k ih => intro hk; simp only [cR]; rw [ih (by omega), bw _ _ (show k < j by omega), bw _ _ (show k < j by omega)]
  simp [cR, this j lr]
 |m + 1 => by
  rw [← Nat.add_assoc]
  simp only [cR]
  rw [mO Ts Us us vs j m, bW _ _ (show j ≤ j + m by omega), bW _ _ (show j ≤ j + m by omega), show j + m - j = m by omega, List.append_assoc]
theorem sr {Ts : Nat → Nd} {us : Nat → Value} : ∀ {n : Nat}, (∀ i, i < n → ∃ b l d, us i = .slice b l d) → ∀ u ∈ cR Ts us n, u.oneCell' = true
 |0, _, u, hu => by cases hu
 |n + 1, h, u, hu => by
  simp only [cR] at hu
  rcases List.mem_append.1 hu with hu | hu
  ·exact sr (fun i hi => h i (by omega)) u hu
  ·obtain ⟨b, l, d, hd⟩ := h n (Nat.lt_succ_self _)
   rw [hd] at hu
   simp at hu
   rcases hu with rfl | rfl | rfl | rfl <;> rfl
theorem gH {B j lo hi : Nat} {Ts : Nat → Nd} {us : Nat → Value} {s e : Nat → Nat} {ka : Option Addr} {kc : Nat} {v : World} {T : Nd} {ua : Option Addr} {uc : Nat} (h : Gw B Ts us s e j (.slice ka j kc) v) (ht : Row lo hi v T (.slice ua T.len uc)) (hB : B ≤ v.heap.size) (hl : B ≤ lo) (Bl : lo ≤ hi) (hh : hi ≤ v.heap.size) (bD : ∀ g, (Value.slice ka j kc).ownBlock = some g → g < lo ∨ hi ≤ g) (hn : j + T.len ≤ 1000000) :
  ∃ a c v' vs, (∀ ty, (Builtin.append_ #[23, 23] ty #[.slice ka j kc, .slice ua T.len uc]).run Tryz.prog v = .ok (.slice a (j + T.len) c) v') ∧ Gw B (cJ Ts j T.kids) (cJ us j vs) (cJ s j (fun _ => lo)) (cJ e j (fun _ => hi)) (j + T.len) (.slice a (j + T.len) c) v' ∧ v.grownBy v' (Value.slice ka j kc).ownBlock ∧
   ((Value.slice a (j + T.len) c).ownBlock = (Value.slice ka j kc).ownBlock ∨ ∃ k, (Value.slice a (j + T.len) c).ownBlock = some k ∧ v.heap.size ≤ k) := by
 obtain ⟨i0, lq, oQ, eT, ed⟩ := info_parts uO
 by_cases h0 : T.len = 0
 ·have hs : Go.Src Tryz.prog i0.size 23 (.slice ua T.len uc) 0 [] v := by
   rw [h0]
   exact bW1
  have hle : j ≤ kc := by
   rcases h.own.2 with ⟨e1, e2⟩ | ⟨g, cap, cur, e1, _, _, h4, _⟩
   ·injection e1 with _ _ e3; omega
   ·injection e1 with _ _ e3; omega
  refine ⟨ka, kc, v, us, fun ty => ?_, ?_, ⟨rfl, rfl, rfl, Nat.le_refl _, fun _ _ _ => rfl⟩, ?_⟩
  ·rw [h0, Nat.add_zero]
   rw [h0] at hs
   exact run_append_nothing (P := Tryz.prog) v 23 23 ty 25 i0 Tryz.underlying23 lq ka j kc hle _ hs
  ·rw [h0, Nat.add_zero]
   refine ⟨?_, fun i fO => ?_, fun i fO g hg => ?_⟩
   ·have := mO Ts T.kids us us j 0
    rw [Nat.add_zero] at this
    rw [this]; simpa [cR] using h.own
   ·rw [bw _ _ fO, bw _ _ fO, bw _ _ fO, bw _ _ fO]; exact h.kid i fO
   ·rw [bw _ _ fO, bw _ _ fO]; exact h.apart i fO g hg
  ·rw [h0, Nat.add_zero]; exact .inl rfl
 ·obtain ⟨g, off, vs, rfl, hg1, hg2, bM, aV⟩ := uo ht h0
  obtain ⟨v', w', hr, cY, aX, eF, a, c, rfl⟩ := jH (P := Tryz.prog) v B 23 23 25 i0 _ 4 56 Tryz.underlying23 lq oQ eT ed rfl (by decide) _ j _ h.own ⟨g, off, none⟩ T.len uc (cR T.kids vs T.len) (fF _ _ _) (fun k u hk => by rw [Addr.add_lit]; exact bM k u hk) (sr fun i fO => by obtain ⟨b, d, hd⟩ := (aV i fO).1; exact ⟨b, _, d, hd⟩) (by unfold maxLen; omega) (by omega) hB
  have hz := aX.size
  refine ⟨a, c, w', vs, fun ty => hr, ⟨?_, fun i fO => ?_, fun i fO k hk => ?_⟩, aX, eF⟩
  ·rw [mO]; exact cY
  ·by_cases iY : i < j
   ·rw [bw _ _ iY, bw _ _ iY, bw _ _ iY, bw _ _ iY]
    obtain ⟨k1, k2, k3, k4⟩ := h.kid i iY
    exact ⟨dc lr lr (fun b o h1 h2 => World.cell?_of_block (a := ⟨b, o, none⟩) (aX.block b (by omega) (fun er => by have := h.apart i iY b er.symm; omega))) k1, k2, k3, by omega⟩
   ·rw [bW _ _ (by omega), bW _ _ (by omega), bW _ _ (by omega), bW _ _ (by omega)]
    exact ⟨dc lr lr (fun b o h1 h2 => World.cell?_of_block (a := ⟨b, o, none⟩) (aX.block b (by omega) (fun er => by have := bD b er.symm; omega))) (aV (i - j) (by omega)).2, hl, Bl, by omega⟩
  ·by_cases iY : i < j
   ·rw [bw _ _ iY, bw _ _ iY]
    obtain ⟨k1, k2, k3, k4⟩ := h.kid i iY
    rcases eF with EI | ⟨q, hq, hqz⟩
    ·exact h.apart i iY k (EI ▸ hk)
    ·rw [hq] at hk; obtain rfl := Option.some.inj hk; omega
   ·rw [bW _ _ (by omega), bW _ _ (by omega)]
    rcases eF with EI | ⟨q, hq, hqz⟩
    ·exact bD k (EI ▸ hk)
    ·rw [hq] at hk; obtain rfl := Option.some.inj hk; omega
theorem qw {B j lo hi g : Nat} {Ts : Nat → Nd} {us : Nat → Value} {s e : Nat → Nat} {v v' : World} {T : Nd} {ua : Option Addr} {uc : Nat} {r : Value} (h : Gw B Ts us s e j (.slice (some ⟨g, 0, none⟩) j j) v) (ht : Row lo hi v T (.slice ua T.len uc)) (hn : j + T.len ≤ 1000000)
  (ei : ∀ ty, (Builtin.append_ #[23, 23] ty #[.slice (some ⟨g, 0, none⟩) j j, .slice ua T.len uc]).run Tryz.prog v = .ok r v') : Below v.heap.size v v' := by
 obtain ⟨i0, lq, oQ, eT, ed⟩ := info_parts uO
 by_cases h0 : T.len = 0
 ·have hs : Go.Src Tryz.prog i0.size 23 (.slice ua 0 uc) 0 [] v := by
   exact bW1
  have h1 := run_append_nothing (P := Tryz.prog) v 23 23 23 25 i0 Tryz.underlying23 lq (some ⟨g, 0, none⟩) j j lr _ hs
  have h2 := ei 23
  rw [h0, h1] at h2
  injection h2 with _ e2
  subst e2
  exact Below.refl _ _
 ·obtain ⟨g', off, vs, rfl, hg1, hg2, bM, aV⟩ := uo ht h0
  have hb : (j + T.len) * i0.bytes ≤ 140737488355328 := by rw [ed]; omega
  have h1 := run_append_grow (P := Tryz.prog) v 23 23 25 i0 _ Tryz.underlying23 lq oQ ⟨g, 0, none⟩ j j (cR Ts us j) (by rw [eT]; exact h.own.1) (h.own.cells (g := g) rfl) ⟨g', off, none⟩ T.len uc (cR T.kids vs T.len) (by rw [eT]; exact fF _ _ _) (fun k u hk => by rw [Addr.add_lit]; exact bM k u hk) (by omega) (by omega) (growslice_fits (by omega) hb)
  have h2 := ei 23
  rw [h1] at h2
  injection h2 with _ e2
  subst e2
  exact ((Below.refl _ _).drew).alloc lr _
structure GS (sb A : Nat) (asks : Nat → Nat) (n ap st : Nat) (w W : World) (b : Nat) (F : World → Prop) (l : Array Bool) (v : World) : Prop where
 pre : l.getD ap false = false → DW sb (A + qJ asks l n) w v ∧ Kp sb W v
 mid : l.getD ap false = true → l.getD st false = false → DW sb (A + ar asks n) w v ∧ v.heap[b]? = W.heap[b]?
 fin : l.getD st false = true → F v
theorem GS.start {sb A : Nat} {asks : Nat → Nat} {n ap st : Nat} {w W : World} {b : Nat} {F : World → Prop} (k : Nat) (h : DW sb A w W) : GS sb A asks n ap st w W b F (Array.replicate k false) W.drew :=
 ⟨fun _ => ⟨by rw [CO]; exact h.drew, bG ((Below.refl W.heap.size W).drew) _⟩, fun e => (by rw [jQ] at e; cases e), fun e => (by rw [jQ] at e; cases e)⟩
theorem GS.same {sb A : Nat} {asks : Nat → Nat} {n ap st : Nat} {w W : World} {b : Nat} {F : World → Prop} {l : Array Bool} {v : World} {i : Nat} (h : GS sb A asks n ap st w W b F l v) (hl : i < l.size) (hu : l.getD i true = false) (h1 : i ≠ ap) (h2 : i ≠ st) (ha : asks i = 0) : GS sb A asks n ap st w W b F (l.setIfInBounds i true) v := by
 have ht : qJ asks (l.setIfInBounds i true) n = qJ asks l n := by rw [o5 hl (cC hu), ha]; simp
 refine ⟨fun e => ?_, fun e e' => ?_, fun e => ?_⟩
 ·rw [bJ h1] at e; rw [ht]; exact h.pre e
 ·rw [bJ h1] at e; rw [bJ h2] at e'; exact h.mid e e'
 ·rw [bJ h2] at e; exact h.fin e
theorem GS.calm {sb A : Nat} {asks : Nat → Nat} {n ap st : Nat} {w W : World} {b : Nat} {F : World → Prop} {l : Array Bool} {v v' : World} {i : Nat} (h : GS sb A asks n ap st w W b F l v) (hl : i < l.size) (hu : l.getD i true = false) (h1 : i ≠ ap) (h2 : i ≠ st) (ha : asks i = 0) (bD : l.getD ap false = false) (aM : l.getD st false = false) (hb : Below v.heap.size v v') : GS sb A asks n ap st w W b F (l.setIfInBounds i true) v' := by
 have ht : qJ asks (l.setIfInBounds i true) n = qJ asks l n := by rw [o5 hl (cC hu), ha]; simp
 obtain ⟨hd, hk⟩ := h.pre bD
 refine ⟨fun _ => ?_, fun e => ?_, fun e => ?_⟩
 ·rw [ht]; exact ⟨hd.calm hb, hk.trans (bG hb _) (fun _ _ h => h)⟩
 ·rw [bJ h1, bD] at e; cases e
 ·rw [bJ h2, aM] at e; cases e
theorem GS.ask {sb A : Nat} {asks : Nat → Nat} {n ap st : Nat} {w W : World} {b : Nat} {F : World → Prop} {l : Array Bool} {v v' : World} {i : Nat} (h : GS sb A asks n ap st w W b F l v) (hl : i < l.size) (hn : i < n) (hu : l.getD i true = false) (h1 : i ≠ ap) (h2 : i ≠ st) (bD : l.getD ap false = false) (aM : l.getD st false = false) (hs : Src sb (A + qJ asks l n + asks i) v') (hk : Kp sb v v') : GS sb A asks n ap st w W b F (l.setIfInBounds i true) v' := by
 have ht : qJ asks (l.setIfInBounds i true) n = qJ asks l n + asks i := by rw [o5 hl (cC hu), if_pos hn]
 obtain ⟨hd, Ch⟩ := h.pre bD
 refine ⟨fun _ => ?_, fun e => ?_, fun e => ?_⟩
 ·rw [ht, ← Nat.add_assoc]; exact ⟨hd.step hs hk, Ch.trans hk (fun _ _ h => h)⟩
 ·rw [bJ h1, bD] at e; cases e
 ·rw [bJ h2, aM] at e; cases e
theorem GS.join {sb A : Nat} {asks : Nat → Nat} {n ap st : Nat} {w W : World} {b : Nat} {F : World → Prop} {l : Array Bool} {v v' : World} {row : Option Nat} (h : GS sb A asks n ap st w W b F l v) (hl : ap < l.size) (hu : l.getD ap true = false) (h2 : ap ≠ st) (aM : l.getD st false = false) (hb : b < W.heap.size) (hbs : b ≠ sb) (hg : v.grownBy v' row) (hr : ∀ k, row = some k → w.heap.size < k ∧ k ≠ b) : GS sb A asks n ap st w W b F (l.setIfInBounds ap true) v' := by
 obtain ⟨hd, hk⟩ := h.pre (cC hu)
 have hz := hk.size
 refine ⟨fun e => (by rw [fw hl] at e; cases e), fun _ _ => ⟨?_, ?_⟩, fun e => (by rw [bJ h2, aM] at e; cases e)⟩
 ·have := (hd.grown hg (fun k hk => (hr k hk).1))
  exact ⟨this.src.mono (by have := iS asks l n; omega), this.kp, this.low⟩
 ·exact (hg.block b (by omega) (fun e => (hr b e.symm).2 rfl)).trans (hk.block b hb hbs)
theorem GS.store {sb A : Nat} {asks : Nat → Nat} {n ap st : Nat} {w W : World} {b : Nat} {F : World → Prop} {l : Array Bool} {v' : World} (hl : st < l.size) (bD : ap = st ∨ l.getD ap false = true) (hF : F v') : GS sb A asks n ap st w W b F (l.setIfInBounds st true) v' := by
 refine ⟨fun e => ?_, fun _ e => (by rw [fw hl] at e; cases e), fun _ => hF⟩
 rcases bD with rfl | bD
 ·rw [fw hl] at e; cases e
 ·by_cases e2 : st = ap
  ·subst e2; rw [fw hl] at e; cases e
  ·rw [bJ e2, bD] at e; cases e
theorem dm {ops : Array Oper} {l : Array Bool} {f i j : Nat} (h : Shut ops l) (ha : anc ops f j i = true) (hu : l.getD i true = false) : l.getD j false = false := by
 cases e : l.getD j false with
 |false => rfl
 |true => have := h.anc ha e; rw [cC hu] at this; cases this
end
end Go.Proofs.YteaocammohcgoaaGreatDoor
