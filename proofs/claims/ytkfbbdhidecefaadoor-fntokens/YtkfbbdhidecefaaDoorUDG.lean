import Derived.Test.YtkfbbdhidecefaaDoorUDE
set_option linter.unusedVariables false
set_option maxHeartbeats 16000000
set_option maxRecDepth 100000
namespace Go.Proofs.YtkfbbdhidecefaaDoor
open Go.RowKit
variable {G : Prop}
theorem bL0 (h : G := by
 have := List.all_eq_true.1 (List.all_eq_true.1 this i (List.mem_range.2 hi)) j (List.mem_range.2 hj)
 simpa [h] using this) : G := h
section
open Go Go.RowKit
def CsP (C : Nat) (T : Nd) : Prop := T.Fine ∧ T.cOk = true ∧ T.cost ≤ C
def LJ (C : Nat) (T : Nd) : Prop := T.Fine ∧ T.eOk = true ∧ T.cost ≤ C
theorem TM {C : Nat} {B : Nd} (h : mo C B) : CsP (C + 10) (cm 16 0 ⟨#[]⟩ B) := by
 refine ⟨bF (by omega) (by omega) (by decide) h.1, ?_, ?_⟩
 ·rw [pQ]
  have k0 : (cm 16 0 ⟨#[]⟩ B).kk 0 = 4 := h.2.1.1
  simp [cm, Nd.kind, Nd.num, Nd.name, Nd.len, Nd.kids, mE, aE, fU, cM, az, ByteArray.size, h.2.1.2] at k0 ⊢
  exact decide_eq_true k0
 ·rw [cH]
  have e : ByteArray.size ⟨#[]⟩ = 0 := by decide
  have := h.2.2
  omega
theorem TL {C D : Nat} {A B : Nd} {s : ByteArray} (hs : ck s = true) (hz : s.size ≤ 40) (hA : LJ D A) (h : mo C B) : CsP (C + D + 50) (gO 16 1 s A B) := by
 refine ⟨iE (by omega) (by omega) (by omega) hA.1 h.1, ?_, ?_⟩
 ·rw [pQ]
  have k0 : (gO 16 1 s A B).kk 1 = 4 := h.2.1.1
  simp [gO, Nd.kind, Nd.num, Nd.name, Nd.len, Nd.kids, mE, aE, fU, cM, az, ByteArray.size, h.2.1.2, hA.2.1, hs] at k0 ⊢
  exact decide_eq_true k0
 ·rw [iF]
  have := h.2.2
  have := hA.2.2
  omega
theorem BJ (k n : Int) (s : ByteArray) (A B C : Nd) : (nW k n s A B C).cost = s.size + (3 + (A.cost + B.cost + C.cost)) := by simp [nW, Nd.cost, ag]
theorem TK {C D E : Nat} {A F B : Nd} (hA : LJ D A) (hF : LJ E F) (h : mo C B) : CsP (C + D + E + 10) (nW 16 2 ⟨#[]⟩ A F B) := by
 refine ⟨⟨by omega, by omega, by decide, by omega, fun i _ => ?_⟩, ?_, ?_⟩
 ·show (if i = 0 then A else if i = 1 then F else B).Fine
  split
  ·exact hA.1
  ·split
   ·exact hF.1
   ·exact h.1
 ·rw [pQ]
  have k0 : (nW 16 2 ⟨#[]⟩ A F B).kk 2 = 4 := h.2.1.1
  simp [nW, Nd.kind, Nd.num, Nd.name, Nd.len, Nd.kids, mE, aE, fU, cM, az, ByteArray.size, h.2.1.2, hA.2.1, hF.2.1] at k0 ⊢
  exact decide_eq_true k0
 ·rw [BJ]
  have e : ByteArray.size ⟨#[]⟩ = 0 := by decide
  have := h.2.2
  have := hA.2.2
  have := hF.2.2
  omega
theorem uE {m : Nat} {Ts : Nat → Nd} (h : ∀ i, i < m → (Ts i).cOk = true) : (Nd.mk 15 0 ⟨#[]⟩ m Ts).sOk = true := by
 rw [aG]
 show aJ 15 0 ⟨#[]⟩ m (fun i => (Ts i).eOk) (fun i => (Ts i).sOk) (fun i => (Ts i).cOk) _ = true
 simp only [aJ]
 rw [iD (p := fun i => (Ts i).cOk) h]
 simp [az]
theorem tq {m C : Nat} {Ts : Nat → Nd} (h : ∀ i, i < m → (Ts i).cost ≤ C) : (Nd.mk 15 0 ⟨#[]⟩ m Ts).cost ≤ m * (C + 1) := by
 show (ByteArray.size ⟨#[]⟩) + (m + ag (fun i => (Ts i).cost) m) ≤ _
 have := AK (m := m) (f := fun i => (Ts i).cost) h
 have e : ByteArray.size ⟨#[]⟩ = 0 := by decide
 rw [e, Nat.mul_add]
 omega
structure SI (sb A C : Nat) (w : World) (ob j : Nat) (Ts : Nat → Nd) (us : Nat → Value) (s e : Nat → Nat) (ka : Option Addr) (kc : Nat) (W : World) : Prop where
 dw : DW sb A w W
 low : w.heap.size < ob
 obx : W.heap[ob]? = some (lV 15 0 ⟨#[]⟩ ka j kc)
 gw : Gw (ob + 1) Ts us s e j (.slice ka j kc) W
 ok : ∀ i, i < j → CsP C (Ts i)
theorem SI.kp {sb A A' C : Nat} {w : World} {ob j : Nat} {Ts : Nat → Nd} {us : Nat → Value} {s e : Nat → Nat} {ka : Option Addr} {kc : Nat} {W W' : World} (h : SI sb A C w ob j Ts us s e ka kc W) (hs : Src sb A' W') (hk : Kp sb W W') : SI sb A' C w ob j Ts us s e ka kc W' := by
 have hl := h.dw.low
 have h2 := h.low
 exact ⟨h.dw.step hs hk, h.low, bG h.obx (by omega) hk, h.gw.kp (sb := sb) (by omega) hk, h.ok⟩
theorem SI.calm {sb A C : Nat} {w : World} {ob j : Nat} {Ts : Nat → Nd} {us : Nat → Value} {s e : Nat → Nat} {ka : Option Addr} {kc : Nat} {W W' : World} (h : SI sb A C w ob j Ts us s e ka kc W) (hb : Below W.heap.size W W') : SI sb A C w ob j Ts us s e ka kc W' := h.kp (h.dw.src.calm hb) (b7 hb _)
theorem SI.more {sb A A' C : Nat} {w : World} {ob j : Nat} {Ts : Nat → Nd} {us : Nat → Value} {s e : Nat → Nat} {ka : Option Addr} {kc : Nat} {W : World} (h : SI sb A C w ob j Ts us s e ka kc W) (hA : A ≤ A') : SI sb A' C w ob j Ts us s e ka kc W := ⟨⟨h.dw.src.mono hA, h.dw.kp, h.dw.low⟩, h.low, h.obx, h.gw, h.ok⟩
def SE (sb A C : Nat) (w : World) (ob j : Nat) (W : World) : Prop := ∃ (Ts : Nat → Nd) (us : Nat → Value) (s e : Nat → Nat) (ka : Option Addr) (kc : Nat), SI sb A C w ob j Ts us s e ka kc W
theorem SI.done {sb A C : Nat} {w : World} {ob j : Nat} {ka : Option Addr} {kc : Nat} {v : World} {x : Value} (hd : DW sb A w v) (sJ : w.heap.size < ob) (hb : v.heap[ob]? = some (lV 15 0 ⟨#[]⟩ ka j kc)) (h : AV (ob + 1) ob (j + 1) (fun Ts => ∀ i, i < j + 1 → CsP C (Ts i)) v x) : ∃ a c, x = .slice a (j + 1) c ∧ SE sb A C w ob (j + 1) (v.setCell ⟨ob, 3, none⟩ (.slice a (j + 1) c)) := by
 obtain ⟨Ts, us, s, e, a, c, h1, h2, h3, h4, h5⟩ := h
 exact ⟨a, c, h1, Ts, us, s, e, a, c, hd.put ob 3 _ (by omega), sJ, (heap_setCell_same v ob 3 _ 27 (.slice a (j + 1) c) hb).trans rfl, h2.put h4 h5, h3⟩
theorem SI.join {sb A C lo hi : Nat} {w : World} {ob j : Nat} {Ts : Nat → Nd} {us : Nat → Value} {s e : Nat → Nat} {ka : Option Addr} {kc : Nat} {v : World} {T : Nd} {ua : Option Addr} {uc : Nat} (h : Gw (ob + 1) Ts us s e j (.slice ka j kc) v) (ax : ∀ i, i < j → CsP C (Ts i)) (ht : Row lo hi v (cm 0 0 ⟨#[]⟩ T) (.slice ua 1 uc)) (hT : CsP C T) (hB : ob + 1 ≤ lo) (Kw : lo ≤ hi) (hh : hi ≤ v.heap.size) (bB : ∀ g, (Value.slice ka j kc).ownBlock = some g → g < lo) (hj : j ≤ 100) :
  ∃ x v', (∀ ty, (Builtin.append_ #[25, 25] ty #[.slice ka j kc, .slice ua 1 uc]).run Tryd.prog v = .ok x v') ∧ v.grownBy v' (Value.slice ka j kc).ownBlock ∧ AV (ob + 1) ob (j + 1) (fun Ts => ∀ i, i < j + 1 → CsP C (Ts i)) v' x := by
 obtain ⟨a, c, v', vs, h1, h2, h3, h4⟩ := nE (T := cm 0 0 ⟨#[]⟩ T) h ht (by omega) hB Kw hh (fun g hg => .inl (bB g hg)) (by show j + 1 ≤ _; omega)
 refine ⟨_, v', h1, h3, _, _, _, _, a, c, rfl, h2, fun i hi => ?_, fun e => ?_, fun i hi => .inl ?_⟩
 ·by_cases oA : i < j
  ·rw [bh _ _ oA]; exact ax i oA
  ·rw [bN _ _ (by omega)]; exact hT
 ·have := (h2.own.lt ob e).1; omega
 ·have := (h2.kid i hi).2.1; omega
end
section
open Go Go.RowKit
theorem CsP.mono {C D : Nat} {T : Nd} (h : CsP C T) (hd : C ≤ D) : CsP D T := ⟨h.1, h.2.1, Nat.le_trans h.2.2 hd⟩
theorem Wn.mono {lo L9 : Nat} {w w' : World} (h : Wn lo w w') (hl : lo ≤ L9) : Wn L9 w w' := ⟨h.size, fun k h1 h2 => h.block k (by omega) h2⟩
theorem AV.stable {B j b : Nat} {P : (Nat → Nd) → Prop} {w w' : World} {x : Value} (h : Wn B w w') (hx : AV B b j P w x) : AV B b j P w' x := by
 obtain ⟨Ts, us, s, e, a, c, h1, h2, h3⟩ := hx
 exact ⟨Ts, us, s, e, a, c, h1, h2.keep h.size fun k k1 k2 _ => h.block k k2 k1, h3⟩
def l7 : Nd := cm 20 0 ⟨#[]⟩ (al 24 0 ⟨#[118]⟩)
def F12 (sb A r0 b : Nat) (T : Nd) (w W : World) (v : World) : Prop := DW sb A w v ∧ (∀ k, k < W.heap.size → k ≠ sb → k ≠ b → v.heap[k]? = W.heap[k]?) ∧ W.heap.size ≤ v.heap.size ∧ ∃ (us : Nat → Value) (s e : Nat → Nat) (a : Option Addr) (c : Nat), v.heap[b]? = some (lV T.kind T.num T.name a (1 + T.len) c) ∧ Gw r0 (fW (fun _ => l7) 1 T.kids) us s e (1 + T.len) (.slice a (1 + T.len) c) v
def Iw (sb ob lo C D n j : Nat) (ka va : Option Addr) (kc vc : Nat) (ch : ByteArray) (deep : Int) (loops : Bool) (i : Nat) (w : World) (x : Value) : Prop := match i with
 |0 => x = .pointer (some ⟨ob, 3, none⟩)
 |1 => x = .slice ka j kc
 |2 => x = .agg #[.int .i64 24, .int .i64 0, .string ch, .slice none 0 0]
 |3 => x = .pointer (some ⟨sb, 0, none⟩)
 |4 => x = .slice va n vc
 |5 => TV lo (LJ 300) w x
 |6 => x = .pointer (some ⟨sb, 0, none⟩)
 |7 => x = .slice va n vc
 |8 => x = .int .i64 deep
 |9 => x = .int .i64 (deep - 1)
 |10 => x = .pointer (some ⟨sb, 0, none⟩)
 |11 => ∃ q : Nat, q < 2 ∧ x = .int .i64 (q : Int)
 |12 => x = .bool loops
 |13 => TV lo (mo C) w x
 |14 => LV lo (fun T => ∃ F B, LJ 300 F ∧ mo C B ∧ T = nW 0 0 ⟨#[]⟩ (al 24 0 ch) F B) w x
 |15 => TV lo (CsP D) w x
 |16 => LV lo (fun T => ∃ A, CsP D A ∧ T = cm 0 0 ⟨#[]⟩ A) w x
 |17 => AV (ob + 1) ob (j + 1) (fun Ts => ∀ i, i < j + 1 → CsP D (Ts i)) w x
 |18 => x = .pointer (some ⟨ob, 3, none⟩)
 |_ => True
theorem rm {sb ob lo C D n j : Nat} {ka va : Option Addr} {kc vc : Nat} {ch : ByteArray} {deep : Int} {loops : Bool} {l : Array Bool} {v v' : World} (h : Wn lo v v') (bB : l.getD 17 false = false) (aF : l.getD 19 false = false) : ∀ jj x, l.getD jj false = true → Iw sb ob lo C D n j ka va kc vc ch deep loops jj v x → Iw sb ob lo C D n j ka va kc vc ch deep loops jj v' x := by
 intro jj x hl hx
 match jj, hx with
 |0, hx => exact hx
 |1, hx => exact hx
 |2, hx => exact hx
 |3, hx => exact hx
 |4, hx => exact hx
 |5, hx => exact TV.stable h hx
 |6, hx => exact hx
 |7, hx => exact hx
 |8, hx => exact hx
 |9, hx => exact hx
 |10, hx => exact hx
 |11, hx => exact hx
 |12, hx => exact hx
 |13, hx => exact TV.stable h hx
 |14, hx => exact LV.stable h hx
 |15, hx => exact TV.stable h hx
 |16, hx => exact LV.stable h hx
 |17, _ => rw [bB] at hl; cases hl
 |18, hx => exact hx
 |19, _ => rw [aF] at hl; cases hl
 |(k + 20), _ => exact trivial
theorem Ph {sb ob lo C D n j : Nat} {ka va : Option Addr} {kc vc : Nat} {ch : ByteArray} {deep : Int} {loops : Bool} {o : Nat} {y : Value} {v : World} (hb : ob < lo) : ∀ jj x, Iw sb ob lo C D n j ka va kc vc ch deep loops jj v x → Iw sb ob lo C D n j ka va kc vc ch deep loops jj (v.setCell ⟨ob, o, none⟩ y) x := by
 intro jj x hx
 match jj, hx with
 |0, hx => exact hx
 |1, hx => exact hx
 |2, hx => exact hx
 |3, hx => exact hx
 |4, hx => exact hx
 |5, hx => exact TV.stable (Wn.of_set hb) hx
 |6, hx => exact hx
 |7, hx => exact hx
 |8, hx => exact hx
 |9, hx => exact hx
 |10, hx => exact hx
 |11, hx => exact hx
 |12, hx => exact hx
 |13, hx => exact TV.stable (Wn.of_set hb) hx
 |14, hx => exact LV.stable (Wn.of_set hb) hx
 |15, hx => exact TV.stable (Wn.of_set hb) hx
 |16, hx => exact LV.stable (Wn.of_set hb) hx
 |17, hx => exact AV.put hx
 |18, hx => exact hx
 |19, hx => exact hx
 |(k + 20), _ => exact trivial
def xC (i : Nat) : Nat := [35, 36, 37, 38, 39, 40, 41, 42, 43, 44, 45, 46, 47, 48, 49, 50, 51, 52, 53, 1019].getD i 2000
theorem LM (i j : Nat) (hi : i < 20) (hj : j < 20) (h : xC i = xC j) : i = j := by
 have : ((List.range 20).all fun i => (List.range 20).all fun j => xC i != xC j || i == j) = true := by decide
 exact bL0
def vD (b lo r0 : Nat) (aB : Option Addr) (T : Nd) (cB : Nat) (i : Nat) (w : World) (x : Value) : Prop := match i with
 |0 => x = .agg #[.int .i64 24, .int .i64 0, .string ⟨#[118]⟩, .slice none 0 0]
 |1 => LV lo (fun T => T = cm 0 0 ⟨#[]⟩ (al 24 0 ⟨#[118]⟩)) w x
 |2 => TV lo (fun T => T = l7) w x
 |3 => GV lo (fun A => A = l7) w x
 |4 => x = .pointer (some ⟨b, 3, none⟩)
 |5 => x = .slice aB T.len cB
 |6 => AV r0 b (1 + T.len) (fun Ts => Ts = fW (fun _ => l7) 1 T.kids) w x
 |7 => x = .pointer (some ⟨b, 3, none⟩)
 |_ => True
theorem rZ {b lo r0 : Nat} {aB : Option Addr} {T : Nd} {cB : Nat} {l : Array Bool} {v v' : World} (h0 : Wn r0 v v') (lh : r0 ≤ lo) (bB : l.getD 8 false = false) (aF : l.getD 8 false = false) : ∀ jj x, l.getD jj false = true → vD b lo r0 aB T cB jj v x → vD b lo r0 aB T cB jj v' x := by
 have h := h0.mono lh
 intro jj x hl hx
 match jj, hx with
 |0, hx => exact hx
 |1, hx => exact LV.stable h hx
 |2, hx => exact TV.stable h hx
 |3, hx => exact GV.stable h hx
 |4, hx => exact hx
 |5, hx => exact hx
 |6, hx => exact AV.stable h0 hx
 |7, hx => exact hx
 |8, _ => rw [aF] at hl; cases hl
 |(k + 9), _ => exact trivial
theorem Lv {b lo r0 : Nat} {aB : Option Addr} {T : Nd} {cB : Nat} {o : Nat} {y : Value} {v : World} (hb : b < lo) : ∀ jj x, vD b lo r0 aB T cB jj v x → vD b lo r0 aB T cB jj (v.setCell ⟨b, o, none⟩ y) x := by
 intro jj x hx
 match jj, hx with
 |0, hx => exact hx
 |1, hx => exact LV.stable (Wn.of_set hb) hx
 |2, hx => exact TV.stable (Wn.of_set hb) hx
 |3, hx => exact GV.stable (Wn.of_set hb) hx
 |4, hx => exact hx
 |5, hx => exact hx
 |6, hx => exact AV.put hx
 |7, hx => exact hx
 |8, hx => exact hx
 |(k + 9), _ => exact trivial
def wv (i : Nat) : Nat := [68, 69, 70, 71, 72, 73, 74, 75, 1008].getD i 2000
theorem IS (i j : Nat) (hi : i < 9) (hj : j < 9) (h : wv i = wv j) : i = j := by
 have : ((List.range 9).all fun i => (List.range 9).all fun j => wv i != wv j || i == j) = true := by decide
 exact bL0
def vC (ob lo D j : Nat) (ka la : Option Addr) (kc lc : Nat) (ch : ByteArray) (L : Nd) (i : Nat) (w : World) (x : Value) : Prop := match i with
 |0 => x = .pointer (some ⟨ob, 3, none⟩)
 |1 => x = .slice ka j kc
 |2 => x = .agg #[.int .i64 24, .int .i64 0, .string ch, .slice none 0 0]
 |3 => x = L.val (.slice la L.len lc)
 |4 => LV lo (fun T => T = gO 0 0 ⟨#[]⟩ (al 24 0 ch) L) w x
 |5 => TV lo (CsP D) w x
 |6 => LV lo (fun T => ∃ A, CsP D A ∧ T = cm 0 0 ⟨#[]⟩ A) w x
 |7 => AV (ob + 1) ob (j + 1) (fun Ts => ∀ i, i < j + 1 → CsP D (Ts i)) w x
 |8 => x = .pointer (some ⟨ob, 3, none⟩)
 |_ => True
theorem tQ {ob lo D j : Nat} {ka la : Option Addr} {kc lc : Nat} {ch : ByteArray} {L : Nd} {l : Array Bool} {v v' : World} (h : Wn lo v v') (bB : l.getD 7 false = false) (aF : l.getD 9 false = false) : ∀ jj x, l.getD jj false = true → vC ob lo D j ka la kc lc ch L jj v x → vC ob lo D j ka la kc lc ch L jj v' x := by
 intro jj x hl hx
 match jj, hx with
 |0, hx => exact hx
 |1, hx => exact hx
 |2, hx => exact hx
 |3, hx => exact hx
 |4, hx => exact LV.stable h hx
 |5, hx => exact TV.stable h hx
 |6, hx => exact LV.stable h hx
 |7, _ => rw [bB] at hl; cases hl
 |8, hx => exact hx
 |9, _ => rw [aF] at hl; cases hl
 |(k + 10), _ => exact trivial
theorem Lu {ob lo D j : Nat} {ka la : Option Addr} {kc lc : Nat} {ch : ByteArray} {L : Nd} {o : Nat} {y : Value} {v : World} (hb : ob < lo) : ∀ jj x, vC ob lo D j ka la kc lc ch L jj v x → vC ob lo D j ka la kc lc ch L jj (v.setCell ⟨ob, o, none⟩ y) x := by
 intro jj x hx
 match jj, hx with
 |0, hx => exact hx
 |1, hx => exact hx
 |2, hx => exact hx
 |3, hx => exact hx
 |4, hx => exact LV.stable (Wn.of_set hb) hx
 |5, hx => exact TV.stable (Wn.of_set hb) hx
 |6, hx => exact LV.stable (Wn.of_set hb) hx
 |7, hx => exact AV.put hx
 |8, hx => exact hx
 |9, hx => exact hx
 |(k + 10), _ => exact trivial
def r8 (i : Nat) : Nat := [76, 77, 78, 79, 80, 81, 82, 83, 84, 1009].getD i 2000
theorem IR (i j : Nat) (hi : i < 10) (hj : j < 10) (h : r8 i = r8 j) : i = j := by
 have : ((List.range 10).all fun i => (List.range 10).all fun j => r8 i != r8 j || i == j) = true := by decide
 exact bL0
def vB (sb ob lo C D n j : Nat) (ka va : Option Addr) (kc vc : Nat) (deep : Int) (loops : Bool) (i : Nat) (w : World) (x : Value) : Prop := match i with
 |0 => x = .pointer (some ⟨ob, 3, none⟩)
 |1 => x = .slice ka j kc
 |2 => x = .pointer (some ⟨sb, 0, none⟩)
 |3 => x = .slice va n vc
 |4 => x = .int .i64 deep
 |5 => x = .int .i64 (deep - 1)
 |6 => x = .pointer (some ⟨sb, 0, none⟩)
 |7 => ∃ q : Nat, q < 2 ∧ x = .int .i64 (q : Int)
 |8 => x = .bool loops
 |9 => TV lo (mo C) w x
 |10 => LV lo (fun T => ∃ B, mo C B ∧ T = cm 0 0 ⟨#[]⟩ B) w x
 |11 => TV lo (CsP D) w x
 |12 => LV lo (fun T => ∃ A, CsP D A ∧ T = cm 0 0 ⟨#[]⟩ A) w x
 |13 => AV (ob + 1) ob (j + 1) (fun Ts => ∀ i, i < j + 1 → CsP D (Ts i)) w x
 |14 => x = .pointer (some ⟨ob, 3, none⟩)
 |_ => True
theorem qj {sb ob lo C D n j : Nat} {ka va : Option Addr} {kc vc : Nat} {deep : Int} {loops : Bool} {l : Array Bool} {v v' : World} (h : Wn lo v v') (bB : l.getD 13 false = false) (aF : l.getD 15 false = false) : ∀ jj x, l.getD jj false = true → vB sb ob lo C D n j ka va kc vc deep loops jj v x → vB sb ob lo C D n j ka va kc vc deep loops jj v' x := by
 intro jj x hl hx
 match jj, hx with
 |0, hx => exact hx
 |1, hx => exact hx
 |2, hx => exact hx
 |3, hx => exact hx
 |4, hx => exact hx
 |5, hx => exact hx
 |6, hx => exact hx
 |7, hx => exact hx
 |8, hx => exact hx
 |9, hx => exact TV.stable h hx
 |10, hx => exact LV.stable h hx
 |11, hx => exact TV.stable h hx
 |12, hx => exact LV.stable h hx
 |13, _ => rw [bB] at hl; cases hl
 |14, hx => exact hx
 |15, _ => rw [aF] at hl; cases hl
 |(k + 16), _ => exact trivial
theorem Lt {sb ob lo C D n j : Nat} {ka va : Option Addr} {kc vc : Nat} {deep : Int} {loops : Bool} {o : Nat} {y : Value} {v : World} (hb : ob < lo) : ∀ jj x, vB sb ob lo C D n j ka va kc vc deep loops jj v x → vB sb ob lo C D n j ka va kc vc deep loops jj (v.setCell ⟨ob, o, none⟩ y) x := by
 intro jj x hx
 match jj, hx with
 |0, hx => exact hx
 |1, hx => exact hx
 |2, hx => exact hx
 |3, hx => exact hx
 |4, hx => exact hx
 |5, hx => exact hx
 |6, hx => exact hx
 |7, hx => exact hx
 |8, hx => exact hx
 |9, hx => exact TV.stable (Wn.of_set hb) hx
 |10, hx => exact LV.stable (Wn.of_set hb) hx
 |11, hx => exact TV.stable (Wn.of_set hb) hx
 |12, hx => exact LV.stable (Wn.of_set hb) hx
 |13, hx => exact AV.put hx
 |14, hx => exact hx
 |15, hx => exact hx
 |(k + 16), _ => exact trivial
def pr (i : Nat) : Nat := [87, 88, 89, 90, 91, 92, 93, 94, 95, 96, 97, 98, 99, 100, 101, 1015].getD i 2000
theorem IQ (i j : Nat) (hi : i < 16) (hj : j < 16) (h : pr i = pr j) : i = j := by
 have : ((List.range 16).all fun i => (List.range 16).all fun j => pr i != pr j || i == j) = true := by decide
 exact bL0
theorem Below.of_grown {lo : Nat} {W V V' : World} {row : Option Nat} (h : Below lo W V) (hg : V.grownBy V' row) (hl : lo ≤ V.heap.size) (hr : ∀ k, row = some k → lo ≤ k) : Below lo W V' := ⟨hg.os.trans h.os, hg.tape.trans h.tape, hg.output.trans h.output, Nat.le_trans h.size hg.size, fun k hk => (hg.block k (by omega) (fun e => by have := hr k e.symm; omega)).trans (h.block k hk)⟩
theorem DW.kp2 {sb A A' : Nat} {w W V : World} (h : DW sb A w W) (h' : DW sb A' w V) (hz : W.heap.size ≤ V.heap.size) (hb : ∀ k, k < W.heap.size → k ≠ sb → V.heap[k]? = W.heap[k]?) : Kp sb W V := ⟨h'.kp.os.trans h.kp.os.symm, h'.kp.tape.trans h.kp.tape.symm, h'.kp.output.trans h.kp.output.symm, hz, hb⟩
theorem CK {ch : ByteArray} (h : ck ch = true) : LJ 41 (al 24 0 ch) := by
 have := gR h
 exact ⟨aC (by omega) (by omega) (by omega), lS h, by rw [bw]; omega⟩
theorem cs9 {C : Nat} {ch : ByteArray} {F B : Nd} (h : ck ch = true) (hF : LJ 300 F) (hB : mo C B) : CsP (C + 400) (nW 16 2 ⟨#[]⟩ (al 24 0 ch) F B) := (TK (CK h) hF hB).mono (by omega)
theorem NG : l7.sOk = true := qc (by omega) (lS (by decide))
theorem Ib {C : Nat} {T : Nd} (h : mo C T) (hl : T.len ≤ 2) : mo (C + 50) (ct l7 T) := by
 refine ⟨xy (bF (by omega) (by omega) (by decide) (aC (by omega) (by omega) (by decide))) h.1 (by omega), ⟨h.2.1.1, CX NG h.2.1.1 h.2.1.2⟩, ?_⟩
 rw [sR]
 have : l7.cost ≤ 40 := by decide
 have := h.2.2
 omega
theorem cs13 {C : Nat} {ch : ByteArray} {T : Nd} (h : ck ch = true) (hB : mo C T) (hl : T.len ≤ 2) : CsP (C + 400) (gO 16 1 ⟨#[118]⟩ (al 24 0 ch) (ct l7 T)) := (TL (by decide) (by decide) (CK h) (Ib hB hl)).mono (by omega)
theorem cs15 {C : Nat} {B : Nd} (hB : mo C B) : CsP (C + 400) (cm 16 0 ⟨#[]⟩ B) := (TM hB).mono (by omega)
end
section
open Go Go.RowKit
theorem DW.put4 {sb A : Nat} {w W : World} (h : DW sb A w W) (k n : Int) (s : ByteArray) (u : Value) : Src sb A (iN W w.heap.size k n s u) ∧ Kp sb w (iN W w.heap.size k n s u) := by
 have hl := h.low
 have hz := h.size
 have hs := lF W w.heap.size k n s u
 have hb := fun i (e : i ≠ w.heap.size) => iA W w.heap.size k n s u i e
 refine ⟨?_, ?_⟩
 ·obtain ⟨ca, cn, cc, a, s, h1, ha⟩ := h.src
  refine ⟨ca, cn, cc, a, s, ⟨(hb sb (by omega)).trans h1.blk, h1.low, h1.few, ?_⟩, ha⟩
  rcases h1.row with e | ⟨g, off, e, hg, hh⟩
  ·exact .inl e
  ·refine .inr ⟨g, off, e, hg, fun i hi => ?_⟩
   obtain ⟨b, hb1, hb2⟩ := hh i hi
   exact ⟨b, hb1, (World.cell?_of_block (a := ⟨g, off + i, none⟩) (hb g (by omega))).trans hb2⟩
 ·have oT := h.kp
  have hG := bO w gZ
  refine ⟨(show (iN W w.heap.size k n s u).os = W.os from rfl).trans (oT.os.trans hG.os), (show (iN W w.heap.size k n s u).tape = W.tape from rfl).trans (oT.tape.trans hG.tape), (show (iN W w.heap.size k n s u).output = W.output from rfl).trans (oT.output.trans hG.output), by omega, fun i qW hn => ?_⟩
  rw [hb i (by omega), oT.block i (by simp; omega) hn]
  exact (bO w gZ).block i qW
theorem Lg {T : Nd} {i : Nat} (hk : T.kind = 4) (hT : T.sOk = true) (hi : i < T.len) : (T.kids i).sOk = true := by
 rw [aG, hk] at hT
 simp only [aJ, if_true, Bool.and_eq_true] at hT
 exact bD.1 hT.2 i hi
theorem Cd (Ts : Nat → Nd) (T : Nd) : ∀ {j k : Nat}, j ≤ k → ag (fun i => (qq Ts k T i).cost) j = ag (fun i => (Ts i).cost) j
 |0, _, _ => rfl
 |j + 1, k, h => by
  simp only [ag]
  rw [Cd Ts T (show j ≤ k by omega), gy _ _ (show j ≠ k by omega)]
structure AI (sb A lo hi bs : Nat) (W1 : World) (TB : Nd) (aB : Option Addr) (cB lB hB i j : Nat) (Ts : Nat → Nd) (us : Nat → Value) (s e : Nat → Nat) (ka : Option Addr) (kc : Nat) (W : World) : Prop where
 dw : DW sb A W1 W
 bsb : W.heap[bs]? = some (lV TB.kind TB.num TB.name aB TB.len cB)
 row : Row lB hB W TB (.slice aB TB.len cB)
 gw : Gw lo Ts us s e j (.slice ka j kc) W
 ap : ∀ g, (Value.slice ka j kc).ownBlock = some g → bs < g
 int : lo ≤ lB ∧ lB ≤ hB ∧ hB ≤ bs ∧ W1.heap.size < lB
 ok : ∀ i, i < j → (Ts i).Fine ∧ (Ts i).sOk = true
 out : ∀ i, i < j → (s i = lo ∧ e i = hi) ∨ W1.heap.size < s i
 top : hi ≤ W1.heap.size
 few : j ≤ i + 1
 sum : ag (fun k => (Ts k).cost) j ≤ 100 + ag (fun k => (TB.kids k).cost) i
theorem AI.lt {sb A lo hi bs : Nat} {W1 : World} {TB : Nd} {aB : Option Addr} {cB lB hB i j : Nat} {Ts : Nat → Nd} {us : Nat → Value} {s e : Nat → Nat} {ka : Option Addr} {kc : Nat} {W : World} (h : AI sb A lo hi bs W1 TB aB cB lB hB i j Ts us s e ka kc W) : bs < W.heap.size := (Array.getElem?_eq_some_iff.1 h.bsb).1
theorem AI.calm {sb A lo hi bs : Nat} {W1 : World} {TB : Nd} {aB : Option Addr} {cB lB hB i j : Nat} {Ts : Nat → Nd} {us : Nat → Value} {s e : Nat → Nat} {ka : Option Addr} {kc : Nat} {W W' : World} (h : AI sb A lo hi bs W1 TB aB cB lB hB i j Ts us s e ka kc W) (hb : Below W.heap.size W W') : AI sb A lo hi bs W1 TB aB cB lB hB i j Ts us s e ka kc W' := by
 have hl := h.lt
 have hi := h.int
 exact ⟨h.dw.calm hb, aZ h.bsb hb, ae hb (by omega) h.row, h.gw.calm hb, h.ap, h.int, h.ok, h.out, h.top, h.few, h.sum⟩
theorem AI.skip {sb A lo hi bs : Nat} {W1 : World} {TB : Nd} {aB : Option Addr} {cB lB hB i j : Nat} {Ts : Nat → Nd} {us : Nat → Value} {s e : Nat → Nat} {ka : Option Addr} {kc : Nat} {W : World} (h : AI sb A lo hi bs W1 TB aB cB lB hB i j Ts us s e ka kc W) : AI sb A lo hi bs W1 TB aB cB lB hB (i + 1) j Ts us s e ka kc W :=
 ⟨h.dw, h.bsb, h.row, h.gw, h.ap, h.int, h.ok, h.out, h.top, by have := h.few; omega, by have := h.sum; simp only [ag]; omega⟩
theorem AI.step {sb A lo hi bs : Nat} {W1 : World} {TB : Nd} {aB : Option Addr} {cB lB hB i j : Nat} {Ts : Nat → Nd} {us : Nat → Value} {s e : Nat → Nat} {ka sI : Option Addr} {kc sH : Nat} {W W' : World} {u : Value} (h : AI sb A lo hi bs W1 TB aB cB lB hB i j Ts us s e ka kc W) (hu : Row lB hB W (TB.kids i) u) (hf : (TB.kids i).Fine) (ho : (TB.kids i).sOk = true)
  (bK : W'.ownsRow lo 27 4 (.slice sI (j + 1) sH) (j + 1) (fL Ts us j ++ [.int .i64 (TB.kids i).kind, .int .i64 (TB.kids i).num, .string (TB.kids i).name, u])) (aD : W.grownBy W' (Value.slice ka j kc).ownBlock) (iU : (Value.slice sI (j + 1) sH).ownBlock = (Value.slice ka j kc).ownBlock ∨ ∃ k, (Value.slice sI (j + 1) sH).ownBlock = some k ∧ W.heap.size ≤ k) :
  AI sb A lo hi bs W1 TB aB cB lB hB (i + 1) (j + 1) (qq Ts j (TB.kids i)) (qq us j u) (qq s j lB) (qq e j hB) sI sH W' := by
 have hl := h.lt
 have hint := h.int
 have hz := aD.size
 have he : ∀ k, k < W.heap.size → k ≤ bs → W'.heap[k]? = W.heap[k]? := fun k hk hn => aD.block k hk (fun er => by have := h.ap k er.symm; omega)
 refine ⟨h.dw.grown aD (fun k hk => by have := h.ap k hk; omega), (he bs hl lr).trans h.bsb, gn lr lr (fun g o h1 h2 => World.cell?_of_block (a := ⟨g, o, none⟩) (he g (by omega) (by omega))) h.row, h.gw.step hu hint.1 hint.2.1 (by omega) (fun g hg => .inr (by have := h.ap g hg; omega)) bK aD iU, fun g hg => ?_, h.int, fun k hk => ?_, fun k hk => ?_, h.top, by have := h.few; omega, ?_⟩
 ·rcases iU with e1 | ⟨k, e1, hk⟩
  ·exact h.ap g (e1 ▸ hg)
  ·rw [e1] at hg; obtain rfl := Option.some.inj hg; omega
 ·by_cases e1 : k = j
  ·subst e1; rw [fP]; exact ⟨hf, ho⟩
  ·rw [gy _ _ e1]; exact h.ok k (by omega)
 ·by_cases e1 : k = j
  ·subst e1; rw [fP, fP]; right; omega
  ·rw [gy _ _ e1, gy _ _ e1]; exact h.out k (by omega)
 ·have := h.sum
  simp only [ag]
  rw [Cd Ts _ (Nat.le_refl j), fP]
  omega
theorem AI.first {sb A lo hi bs : Nat} {W1 : World} {TB T : Nd} {aB : Option Addr} {cB lB hB g0 : Nat} {sI : Option Addr} {sH : Nat} {W W' : World} {u : Value} (dw : DW sb A W1 W) (bsb : W.heap[bs]? = some (lV TB.kind TB.num TB.name aB TB.len cB)) (row : Row lB hB W TB (.slice aB TB.len cB)) (int : lo ≤ lB ∧ lB ≤ hB ∧ hB ≤ bs ∧ W1.heap.size < lB) (lh : lo ≤ hi) (gW : hi ≤ W1.heap.size) (hg : bs < g0)
  (hr : Row lo hi W T u) (hT : T.Fine ∧ T.sOk = true ∧ T.cost ≤ 100) (ho : W.ownsRow lo 27 4 (.slice (some ⟨g0, 0, none⟩) 0 0) 0 [])
  (bK : W'.ownsRow lo 27 4 (.slice sI 1 sH) 1 [.int .i64 T.kind, .int .i64 T.num, .string T.name, u]) (aD : W.grownBy W' (Value.slice (some ⟨g0, 0, none⟩) 0 0).ownBlock) (iU : (Value.slice sI 1 sH).ownBlock = (Value.slice (some ⟨g0, 0, none⟩) 0 0).ownBlock ∨ ∃ k, (Value.slice sI 1 sH).ownBlock = some k ∧ W.heap.size ≤ k) :
  AI sb A lo hi bs W1 TB aB cB lB hB 0 1 (qq (fun _ => .nil) 0 T) (qq (fun _ => undef) 0 u) (qq (fun _ => 0) 0 lo) (qq (fun _ => 0) 0 hi) sI sH W' := by
 have hl : bs < W.heap.size := (Array.getElem?_eq_some_iff.1 bsb).1
 have hz := aD.size
 have GZ : ∀ k, (Value.slice (some ⟨g0, 0, none⟩) 0 0).ownBlock = some k → k = g0 := fun k hk => by simp [Value.ownBlock] at hk; exact hk.symm
 have he : ∀ k, k < W.heap.size → k ≤ bs → W'.heap[k]? = W.heap[k]? := fun k hk hn => aD.block k hk (fun er => by have := GZ k er.symm; omega)
 have mV := (Gw.start (fun _ => Nd.nil) (fun _ => undef) (fun _ => 0) (fun _ => 0) ho).step hr lr lh (by omega) (fun g hg => .inr (by have := GZ g hg; omega)) bK aD iU
 refine ⟨dw.grown aD (fun k hk => by have := GZ k hk; omega), (he bs hl lr).trans bsb, gn lr lr (fun g o h1 h2 => World.cell?_of_block (a := ⟨g, o, none⟩) (he g (by omega) (by omega))) row, mV, fun g vY => ?_, int, fun k hk => ?_, fun k hk => ?_, gW, by omega, ?_⟩
 ·rcases iU with e1 | ⟨k, e1, hk⟩
  ·have := GZ g (e1 ▸ vY); omega
  ·rw [e1] at vY; obtain rfl := Option.some.inj vY; omega
 ·obtain rfl : k = 0 := by omega
  rw [fP]; exact ⟨hT.1, hT.2.1⟩
 ·obtain rfl : k = 0 := by omega
  rw [fP, fP]; left; exact ⟨rfl, rfl⟩
 ·simp only [ag]
  rw [fP]
  have := hT.2.2
  omega
theorem AI.fin {sb A lo hi bs C : Nat} {W1 : World} {TB : Nd} {aB : Option Addr} {cB lB hB j : Nat} {Ts : Nat → Nd} {us : Nat → Value} {s e : Nat → Nat} {ka : Option Addr} {kc : Nat} {W : World} (h : AI sb A lo hi bs W1 TB aB cB lB hB TB.len j Ts us s e ka kc W) (hc : TB.cost ≤ C) (hl : TB.len ≤ 7) :
    Gw lo Ts us s e j (.slice ka j kc) (iN W W1.heap.size 4 0 ⟨#[]⟩ (.slice ka j kc)) ∧ (∀ g, (Value.slice ka j kc).ownBlock = some g → W1.heap.size < g) ∧ (∀ i, i < j → (s i = lo ∧ e i = hi) ∨ W1.heap.size < s i) ∧ mo (C + 200) (.mk 4 0 ⟨#[]⟩ j Ts) := by
  have ig := h.few
  have hint := h.int
  have htop := h.top
  refine ⟨h.gw.keep (w' := iN W W1.heap.size 4 0 ⟨#[]⟩ (.slice ka j kc)) (by rw [lF]; exact Nat.le_refl _) (fun k _ _ hh => iA W _ _ _ _ _ k (by
    rcases hh with hh | ⟨i, hi, h1, h2⟩
    · have := h.ap k hh; omega
    · have := h.out i hi; omega)), fun g hg => by have := h.ap g hg; omega, h.out, ⟨by omega, by omega, by decide, by omega, fun i hi => (h.ok i hi).1⟩, ⟨rfl, wR fun i hi => (h.ok i hi).2⟩, ?_⟩
  show ByteArray.size ⟨#[]⟩ + (j + ag (fun i => (Ts i).cost) j) ≤ _
  have e0 : ByteArray.size ⟨#[]⟩ = 0 := by decide
  have h1 := TB.cost_eq
  have h2 := h.sum
  omega
def KD (sb lo hi : Nat) (A : Nd) (a : Option Addr) (w : World) : Prop := ∃ g off b d, a = some ⟨g, off, none⟩ ∧ (g ≠ sb ∧ g < w.heap.size) ∧ (w.cell? ⟨g, off, none⟩ = some (.int .i64 A.kind) ∧ w.cell? ⟨g, off + 1, none⟩ = some (.int .i64 A.num) ∧ w.cell? ⟨g, off + 2, none⟩ = some (.string A.name) ∧ w.cell? ⟨g, off + 3, none⟩ = some (.slice b A.len d)) ∧ Row lo hi w A (.slice b A.len d)
theorem KD.kp {sb lo hi : Nat} {A : Nd} {a : Option Addr} {w w' : World} (h : KD sb lo hi A a w) (lh : sb < lo) (gW : hi ≤ w.heap.size) (hk : Kp sb w w') : KD sb lo hi A a w' := by
 obtain ⟨g, off, b, d, rfl, ⟨h1, h2⟩, ⟨c0, c1, c2, c3⟩, hr⟩ := h
 have e : ∀ o, w'.cell? ⟨g, o, none⟩ = w.cell? ⟨g, o, none⟩ := fun o => World.cell?_of_block (a := ⟨g, o, none⟩) (hk.block g h2 h1)
 exact ⟨g, off, b, d, rfl, ⟨h1, Nat.lt_of_lt_of_le h2 hk.size⟩, ⟨(e _).trans c0, (e _).trans c1, (e _).trans c2, (e _).trans c3⟩, l8 hr lh gW hk⟩
theorem KD.calm {sb lo hi : Nat} {A : Nd} {a : Option Addr} {w w' : World} (h : KD sb lo hi A a w) (lh : sb < lo) (gW : hi ≤ w.heap.size) (hb : Below w.heap.size w w') : KD sb lo hi A a w' := h.kp lh gW (b7 hb _)
end
end Go.Proofs.YtkfbbdhidecefaaDoor
