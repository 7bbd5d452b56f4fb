import Derived.Test.YtkfbbdhidecefaaDoorUDO
import Derived.Test.YtkfbbdhidecefaaDoorUDI0
set_option linter.unusedVariables false
set_option maxHeartbeats 16000000
set_option maxRecDepth 100000
namespace Go.Proofs.YtkfbbdhidecefaaDoor
open Go.RowKit
variable {G : Prop}
theorem bH0 (h : G := by
 cases ua with
 |none => exact Go.Src.ofNil v Tryd.underlying25 uc
 |some ad => exact Go.Src.ofSlice v Tryd.underlying25 ad 0 uc [] (by simp) (fun j u hj => by simp at hj) (fun u hu => by cases hu)) : G := h
def pt (B : Nat) (T : Nd) (w : World) (v : Value) : Prop := ∃ a c, v = T.val (.slice a T.len c) ∧ Row B w.heap.size w T (.slice a T.len c)
def cE (Ts : List Nd) : Nat → Nd := fun i => Ts.getD i .nil
def ru (B : Nat) (Ts : List Nd) (w : World) (v : Value) : Prop := ∃ g, v = .slice (some ⟨g, 0, none⟩) Ts.length Ts.length ∧ B ≤ g ∧ ∃ us, w.heap[g]? = some (.cells (fL (cE Ts) us Ts.length).toArray 27 (0, 0)) ∧ ∀ i, i < Ts.length → Row B g w (cE Ts i) (us i)
inductive Ty where
 |nd (T : Nd)
 |rw (Ts : List Nd)
def Ty.holds (B : Nat) : Ty → World → Value → Prop
 |.nd T => pt B T
 |.rw Ts => ru B Ts
theorem Gl {B : Nat} {T : Nd} {w w' : World} {v : Value} (h : pt B T w v) (hb : Below w.heap.size w w') : pt B T w' v := by
 obtain ⟨a, c, rfl, hr⟩ := h
 exact ⟨a, c, rfl, cD (ae hb lr hr) lr hb.size⟩
theorem gm {B : Nat} {Ts : List Nd} {w w' : World} {v : Value} (h : ru B Ts w v) (hb : Below w.heap.size w w') : ru B Ts w' v := by
 obtain ⟨g, rfl, h1, us, h2, h3⟩ := h
 have hg := (Array.getElem?_eq_some_iff.1 h2).1
 exact ⟨g, rfl, h1, us, (hb.block g hg).trans h2, fun i hi => ae hb (by omega) (h3 i hi)⟩
theorem Ty.calm {B : Nat} {t : Ty} {w w' : World} {v : Value} (h : t.holds B w v) (hb : Below w.heap.size w w') : t.holds B w' v := by
 cases t with
 |nd T => exact Gl h hb
 |rw Ts => exact gm h hb
theorem gA {B : Nat} {Ts : List Nd} {w : World} {v : Value} (h : ru B Ts w v) (hl : Ts.length ≤ 1000) (k n : Int) (s : ByteArray) : pt B (.mk k n s Ts.length (cE Ts)) w (.agg #[.int .i64 k, .int .i64 n, .string s, v]) := by
 obtain ⟨g, rfl, h1, us, h2, h3⟩ := h
 have hg := (Array.getElem?_eq_some_iff.1 h2).1
 have hc : ∀ o, w.cell? ⟨g, o, none⟩ = (fL (cE Ts) us Ts.length).toArray[o]? := fun o => cell_of_row _ _ _ _ _ (0, 0) h2
 refine ⟨_, _, rfl, my h1 hg lr (by omega) fun i hi => ?_⟩
 obtain ⟨f0, f1, f2, f3⟩ := pI (cE Ts) us hi
 exact ⟨us i, by rw [hc]; simpa using f0, by rw [hc]; simpa using f1, by rw [hc]; simpa using f2, by rw [hc]; simpa using f3, cD (h3 i hi) lr (by omega)⟩
theorem AW {B : Nat} {Ts : List Nd} {w : World} {v : Value} (h : ru B Ts w v) (hl : Ts.length ≤ 1000) : ∃ g us, v = .slice (some ⟨g, 0, none⟩) Ts.length Ts.length ∧ B ≤ g ∧ g < w.heap.size ∧ Gw B (cE Ts) us (fun _ => B) (fun _ => g) Ts.length (.slice (some ⟨g, 0, none⟩) Ts.length Ts.length) w := by
 obtain ⟨g, rfl, h1, us, h2, h3⟩ := h
 have hg := (Array.getElem?_eq_some_iff.1 h2).1
 have hlen := mX (cE Ts) us Ts.length
 refine ⟨g, us, rfl, h1, hg, ⟨hlen, .inr ⟨g, Ts.length, _, rfl, h1, h2, Nat.le_refl _, by unfold maxLen; omega, by simp [hlen], by simp [← hlen]⟩⟩, fun i hi => ⟨h3 i hi, Nat.le_refl _, h1, by omega⟩, fun i hi k hk => .inr (by simp [Value.ownBlock] at hk; omega)⟩
theorem gI (B : Nat) (w : World) (k n : Int) (s : ByteArray) : pt B (al k n s) w (.agg #[.int .i64 k, .int .i64 n, .string s, .slice none 0 0]) := ⟨none, 0, rfl, gD _ _ _ _ _ _⟩
theorem sZ {B : Nat} {T : Nd} {w : World} {a : Option Addr} {c : Nat} (hB : B ≤ w.heap.size) (h : Row B w.heap.size w T (.slice a T.len c)) :
  ru B [T] (w.alloc (nO T (.slice a T.len c))) (.slice (some ⟨w.heap.size, 0, none⟩) 1 1) := by
 have hb := bO w (nO T (.slice a T.len c))
 refine ⟨_, rfl, hB, (fun i => if i = 0 then .slice a T.len c else undef), (heap_alloc_new w _).trans rfl, fun i hi => ?_⟩
 have Sw : i < 1 := by simpa using hi
 obtain rfl : i = 0 := by omega
 exact ae hb lr h
theorem zc {B : Nat} {T0 T1 : Nd} {w : World} {a0 a1 : Option Addr} {c0 c1 : Nat} (hB : B ≤ w.heap.size) (h0 : Row B w.heap.size w T0 (.slice a0 T0.len c0)) (h1 : Row B w.heap.size w T1 (.slice a1 T1.len c1)) :
  ru B [T0, T1] (w.alloc (.cells #[.int .i64 T0.kind, .int .i64 T0.num, .string T0.name, .slice a0 T0.len c0, .int .i64 T1.kind, .int .i64 T1.num, .string T1.name, .slice a1 T1.len c1] 27)) (.slice (some ⟨w.heap.size, 0, none⟩) 2 2) := by
 have hb := bO w (.cells #[.int .i64 T0.kind, .int .i64 T0.num, .string T0.name, .slice a0 T0.len c0, .int .i64 T1.kind, .int .i64 T1.num, .string T1.name, .slice a1 T1.len c1] 27)
 refine ⟨_, rfl, hB, (fun i => if i = 0 then .slice a0 T0.len c0 else if i = 1 then .slice a1 T1.len c1 else undef), (heap_alloc_new w _).trans rfl, fun i hi => ?_⟩
 have Sw : i < 2 := by simpa using hi
 rcases (by omega : i = 0 ∨ i = 1) with rfl | rfl
 ·exact ae hb lr h0
 ·exact ae hb lr h1
theorem F8 {B : Nat} {T0 T1 T2 : Nd} {w : World} {a0 a1 a2 : Option Addr} {c0 c1 c2 : Nat} (hB : B ≤ w.heap.size) (h0 : Row B w.heap.size w T0 (.slice a0 T0.len c0)) (h1 : Row B w.heap.size w T1 (.slice a1 T1.len c1)) (h2 : Row B w.heap.size w T2 (.slice a2 T2.len c2)) :
  ru B [T0, T1, T2] (w.alloc (.cells #[.int .i64 T0.kind, .int .i64 T0.num, .string T0.name, .slice a0 T0.len c0, .int .i64 T1.kind, .int .i64 T1.num, .string T1.name, .slice a1 T1.len c1, .int .i64 T2.kind, .int .i64 T2.num, .string T2.name, .slice a2 T2.len c2] 27)) (.slice (some ⟨w.heap.size, 0, none⟩) 3 3) := by
 have hb := bO w (.cells #[.int .i64 T0.kind, .int .i64 T0.num, .string T0.name, .slice a0 T0.len c0, .int .i64 T1.kind, .int .i64 T1.num, .string T1.name, .slice a1 T1.len c1, .int .i64 T2.kind, .int .i64 T2.num, .string T2.name, .slice a2 T2.len c2] 27)
 refine ⟨_, rfl, hB, (fun i => if i = 0 then .slice a0 T0.len c0 else if i = 1 then .slice a1 T1.len c1 else if i = 2 then .slice a2 T2.len c2 else undef), (heap_alloc_new w _).trans rfl, fun i hi => ?_⟩
 have Sw : i < 3 := by simpa using hi
 rcases (by omega : i = 0 ∨ i = 1 ∨ i = 2) with rfl | rfl | rfl
 ·exact ae hb lr h0
 ·exact ae hb lr h1
 ·exact ae hb lr h2
theorem Q2 {B : Nat} {T0 T1 T2 T3 : Nd} {w : World} {a0 a1 a2 a3 : Option Addr} {c0 c1 c2 c3 : Nat} (hB : B ≤ w.heap.size) (h0 : Row B w.heap.size w T0 (.slice a0 T0.len c0)) (h1 : Row B w.heap.size w T1 (.slice a1 T1.len c1)) (h2 : Row B w.heap.size w T2 (.slice a2 T2.len c2)) (h3 : Row B w.heap.size w T3 (.slice a3 T3.len c3)) :
  ru B [T0, T1, T2, T3] (w.alloc (.cells #[.int .i64 T0.kind, .int .i64 T0.num, .string T0.name, .slice a0 T0.len c0, .int .i64 T1.kind, .int .i64 T1.num, .string T1.name, .slice a1 T1.len c1, .int .i64 T2.kind, .int .i64 T2.num, .string T2.name, .slice a2 T2.len c2, .int .i64 T3.kind, .int .i64 T3.num, .string T3.name, .slice a3 T3.len c3] 27)) (.slice (some ⟨w.heap.size, 0, none⟩) 4 4) := by
 have hb := bO w (.cells #[.int .i64 T0.kind, .int .i64 T0.num, .string T0.name, .slice a0 T0.len c0, .int .i64 T1.kind, .int .i64 T1.num, .string T1.name, .slice a1 T1.len c1, .int .i64 T2.kind, .int .i64 T2.num, .string T2.name, .slice a2 T2.len c2, .int .i64 T3.kind, .int .i64 T3.num, .string T3.name, .slice a3 T3.len c3] 27)
 refine ⟨_, rfl, hB, (fun i => if i = 0 then .slice a0 T0.len c0 else if i = 1 then .slice a1 T1.len c1 else if i = 2 then .slice a2 T2.len c2 else if i = 3 then .slice a3 T3.len c3 else undef), (heap_alloc_new w _).trans rfl, fun i hi => ?_⟩
 have Sw : i < 4 := by simpa using hi
 rcases (by omega : i = 0 ∨ i = 1 ∨ i = 2 ∨ i = 3) with rfl | rfl | rfl | rfl
 ·exact ae hb lr h0
 ·exact ae hb lr h1
 ·exact ae hb lr h2
 ·exact ae hb lr h3
def V11 (sb b : Nat) (i : Nat) (w : World) (v : Value) : Prop := match i with
 |0 => v = .pointer (some ⟨b, 3, none⟩)
 |1 => v = .slice none 0 0
 |2 => v = .pointer (some ⟨sb, 0, none⟩)
 |3 => ∃ q : Nat, q < 3 ∧ v = .int .i64 (q : Int)
 |4 => ∃ q : Nat, q < 3 ∧ v = .agg #[.int .i64 22, .int .i64 (q : Int), .string ⟨#[]⟩, .slice none 0 0]
 |5 => ∃ g q : Nat, q < 3 ∧ b < g ∧ v = .slice (some ⟨g, 0, none⟩) 1 1 ∧ w.heap[g]? = some (lV 22 q ⟨#[]⟩ none 0 0)
 |6 => ∃ g cap q : Nat, q < 3 ∧ (1 ≤ cap ∧ cap ≤ 9223372036854775807) ∧ b < g ∧ v = .slice (some ⟨g, 0, none⟩) 1 cap ∧ Row (b + 1) w.heap.size w (cm 26 0 ⟨#[]⟩ (al 22 q ⟨#[]⟩)) v
 |7 => v = .pointer (some ⟨b, 3, none⟩)
 |_ => True
structure Wr (sb b : Nat) (w w' : World) : Prop where
 size : w.heap.size ≤ w'.heap.size
 block : ∀ k, k < w.heap.size → k ≠ sb → k ≠ b → w'.heap[k]? = w.heap[k]?
theorem Wr.of_kp {sb b : Nat} {w w' : World} (h : Kp sb w w') : Wr sb b w w' := ⟨h.size, fun k hk h1 _ => h.block k hk h1⟩
theorem Wr.of_calm {sb b : Nat} {w w' : World} (h : Below w.heap.size w w') : Wr sb b w w' := ⟨h.size, fun k hk _ _ => h.block k hk⟩
theorem vF {sb b : Nat} {w w' : World} (h : Wr sb b w w') (hsb : sb < b) (i : Nat) (v : Value) (hv : V11 sb b i w v) : V11 sb b i w' v := by
 match i, hv with
 |0, hv => exact hv
 |1, hv => exact hv
 |2, hv => exact hv
 |3, hv => exact hv
 |4, hv => exact hv
 |5, hv =>
  obtain ⟨g, q, h1, h2, h3, h4⟩ := hv
  exact ⟨g, q, h1, h2, h3, (h.block g (Array.getElem?_eq_some_iff.1 h4).1 (by omega) (by omega)).trans h4⟩
 |6, hv =>
  obtain ⟨g, cap, q, h1, h2, h3, h4, h5⟩ := hv
  exact ⟨g, cap, q, h1, h2, h3, h4, gn lr h.size (fun k o k1 k2 => World.cell?_of_block (a := ⟨k, o, none⟩) (h.block k k2 (by omega) (by omega))) h5⟩
 |7, hv => exact hv
 |(i + 8), _ => exact trivial
def Lw (sb b A : Nat) (w0 : World) (listed : Array Bool) (w : World) : Prop :=
 DW sb (if listed.getD 3 false = true then A + 3 else A) w0 w ∧ (listed.getD 8 false = false → w.heap[b]? = some (lV 26 0 ⟨#[]⟩ none 0 0)) ∧
 (listed.getD 8 false = true → (∀ i, i < 8 → listed.getD i false = true) ∧ ∃ (q : Nat) (g cap : Nat), q < 3 ∧ Ap sb (A + 3) w0 w b 26 0 ⟨#[]⟩ (al 22 q ⟨#[]⟩) (.slice (some ⟨g, 0, none⟩) 1 cap))
theorem Gk {v : World} {g : Nat} {k n : Int} {s : ByteArray} {a : Option Addr} {l c : Nat} (h : v.heap[g]? = some (lV k n s a l c)) : ∀ j u, ([.int .i64 k, .int .i64 n, .string s, .slice a l c] : List Value)[j]? = some u → v.cell? ((⟨g, 0, none⟩ : Addr).add j) = some u := by
 obtain ⟨h0, h1, h2, h3, _⟩ := aw h
 intro j u hj
 match j, hj with
 |0, hj => obtain rfl := Option.some.inj hj; simpa [Addr.add] using h0
 |1, hj => obtain rfl := Option.some.inj hj; simpa [Addr.add] using h1
 |2, hj => obtain rfl := Option.some.inj hj; simpa [Addr.add] using h2
 |3, hj => obtain rfl := Option.some.inj hj; simpa [Addr.add] using h3
 |j + 4, hj => simp at hj
theorem oH {P : Program} {o : Oper} {a : Act} {w w' : World} {K : Act → World → Prop} {Q : Exit → Act → World → Prop} {s x : Operand} {t : TypeId} {v1 v2 r : Value} (ho : o.op = .call { callee := .builtin .append, args := #[s, x], argTypes := #[t, t] })
  (hs : a.eval s = v1) (hx : a.eval x = v2) (hr : (Builtin.append_ #[t, t] o.type #[v1, v2]).run P w = .ok r w') (h : K (a.put o.dst r) w') : o.wp P a w K Q := by
 unfold Oper.wp execOp
 simp only [ho, resolve, invoke, builtin, Sem.run_bind, Sem.run_pure, Result.andThen_ok, List.map_toArray, List.map_cons, List.map_nil, hs, hx, hr]
 exact h
theorem Wr.of_set (sb b o : Nat) (w : World) (v : Value) : Wr sb b w (w.setCell ⟨b, o, none⟩ v) := ⟨by simp [World.setCell], fun k _ _ hk => Below.heap_setCell _ _ _ _ (by show k ≠ b; exact hk)⟩
theorem EC {sb b A : Nat} {w0 w : World} {listed : Array Bool} {g cap q : Nat} (h : Lw sb b A w0 listed w) (hl : 8 < listed.size) (aN : ∀ i, i < 8 → listed.getD i false = true) (h8 : listed.getD 8 false = false) (hb : w0.heap.size + 1 ≤ b) (hq : q < 3)
  (hr : Row (b + 1) w.heap.size w (cm 26 0 ⟨#[]⟩ (al 22 q ⟨#[]⟩)) (.slice (some ⟨g, 0, none⟩) 1 cap)) : Lw sb b A w0 (listed.setIfInBounds 8 true) (w.setCell ⟨b, 3, none⟩ (.slice (some ⟨g, 0, none⟩) 1 cap)) := by
 obtain ⟨c0, c1, c2, c3, _⟩ := aw (h.2.1 h8)
 have gC := h.1
 rw [if_pos (aN 3 (by omega))] at gC
 have uR := gu _ _ _ (.slice (some ⟨g, 0, none⟩) 1 cap) c3
 have hw := Wr.of_set sb b 3 w (.slice (some ⟨g, 0, none⟩) 1 cap)
 have sJ := gC.low
 refine ⟨?_, fun e => ?_, fun _ => ⟨fun i hi => ?_, q, g, cap, hq, ?_⟩⟩
 ·rw [bq (by omega), if_pos (aN 3 (by omega))]; exact gC.put b 3 _ hb
 ·rw [iR hl] at e; cases e
 ·rw [bq (by omega)]; exact aN i hi
 ·refine ⟨gC.put b 3 _ hb, ?_, ?_, ?_, ?_, ?_⟩
  ·exact gn (by omega) hw.size (fun k o k1 k2 => World.cell?_of_block (a := ⟨k, o, none⟩) (hw.block k k2 (by omega) (by omega))) hr
  ·rw [uR, if_neg (by omega)]; exact c0
  ·rw [uR, if_neg (by omega)]; exact c1
  ·rw [uR, if_neg (by omega)]; exact c2
  ·rw [uR, if_pos ⟨rfl, rfl⟩]
theorem getD_in {l : Array Bool} {j : Nat} (hj : j < l.size) (h : l.getD j true = true) : l.getD j false = true := by
 rw [Array.getD_eq_getD_getElem?, Array.getElem?_eq_getElem hj] at *
 exact h
theorem nH {sb b A : Nat} {w0 w w' : World} {listed : Array Bool} {i : Nat} (h : Lw sb b A w0 listed w) (hi : i < 8) (h3 : i ≠ 3) (h8 : listed.getD 8 false = false) (hb : Below w.heap.size w w') : Lw sb b A w0 (listed.setIfInBounds i true) w' := by
 refine ⟨?_, fun _ => aZ (h.2.1 h8) hb, fun e => ?_⟩
 ·rw [bq (by omega)]; exact h.1.calm hb
 ·rw [bq (by omega), h8] at e; cases e
theorem ID {sb b A : Nat} {w0 w w' : World} {listed : Array Bool} (h : Lw sb b A w0 listed w) (hl : 3 < listed.size) (h8 : listed.getD 8 false = false) (hs : Src sb (A + 3) w') (hk : Kp sb w w') (fE : b ≠ sb) : Lw sb b A w0 (listed.setIfInBounds 3 true) w' := by
 refine ⟨?_, fun _ => bG (h.2.1 h8) fE hk, fun e => ?_⟩
 ·rw [iR hl, if_pos rfl]; exact h.1.step hs hk
 ·rw [bq (by omega), h8] at e; cases e
theorem Lp {b g q cap : Nat} {v : World} (hb : b ≤ v.heap.size) (hc : 1 ≤ cap ∧ cap ≤ 9223372036854775807) :
  Row (b + 1) (v.drew.alloc (.cells (([.int .i64 22, .int .i64 (q : Int), .string ⟨#[]⟩, .slice none 0 0] : List Value).toArray ++ Builtin.zeroCells (Value.agg #[.int .i64 0, .int .i64 0, .string ⟨#[]⟩, .slice none 0 0]).cells (cap - 1)) 27)).heap.size
   (v.drew.alloc (.cells (([.int .i64 22, .int .i64 (q : Int), .string ⟨#[]⟩, .slice none 0 0] : List Value).toArray ++ Builtin.zeroCells (Value.agg #[.int .i64 0, .int .i64 0, .string ⟨#[]⟩, .slice none 0 0]).cells (cap - 1)) 27)) (cm 26 0 ⟨#[]⟩ (al 22 q ⟨#[]⟩)) (.slice (some ⟨v.heap.size, 0, none⟩) 1 cap) ∨ b = v.heap.size := by
 by_cases e : b = v.heap.size
 ·exact .inr e
 ·left
  have hn := heap_alloc_new v.drew (.cells (([.int .i64 22, .int .i64 (q : Int), .string ⟨#[]⟩, .slice none 0 0] : List Value).toArray ++ Builtin.zeroCells (Value.agg #[.int .i64 0, .int .i64 0, .string ⟨#[]⟩, .slice none 0 0]).cells (cap - 1)) 27)
  rw [show v.drew.heap.size = v.heap.size from rfl] at hn
  refine my (by omega) (by rw [World.size_alloc]; exact Nat.lt_succ_self _) hc.1 hc.2 fun i hi => ?_
  obtain rfl : i = 0 := by omega
  have lR : ∀ o, o < 4 → (v.drew.alloc (.cells (([.int .i64 22, .int .i64 (q : Int), .string ⟨#[]⟩, .slice none 0 0] : List Value).toArray ++ Builtin.zeroCells (Value.agg #[.int .i64 0, .int .i64 0, .string ⟨#[]⟩, .slice none 0 0]).cells (cap - 1)) 27)).cell? ⟨v.heap.size, o, none⟩ = (#[Value.int .i64 22, .int .i64 (q : Int), .string ⟨#[]⟩, .slice none 0 0])[o]? := by
   intro o ho
   rw [cell_of_row _ _ _ _ _ (0, 0) hn, Array.getElem?_append, if_pos (by simpa using ho)]
  refine ⟨.slice none 0 0, ?_, ?_, ?_, ?_, gD _ _ _ _ _ _⟩
  ·exact (lR 0 (by omega)).trans rfl
  ·exact (lR 1 (by omega)).trans rfl
  ·exact (lR 2 (by omega)).trans rfl
  ·exact (lR 3 (by omega)).trans rfl
def L6 (M : Nd) (u : Value) : Obj := .cells #[.int .i64 M.kind, .int .i64 M.num, .string M.name, u] 27 (0, 0)
def Ql (lo sb : Nat) (M : Nd) (u : Value) (i : Nat) (w : World) (v : Value) : Prop := match i with
 |0 => v = .pointer (some ⟨sb, 0, none⟩)
 |1 => ∃ g, lo ≤ g ∧ v = .slice (some ⟨g, 0, none⟩) 2 2 ∧ ∀ i, i < 2 → ∃ s, Ao s ∧ w.cell? ⟨g, 0 + i, none⟩ = some (.string s)
 |2 => ∃ s, Ao s ∧ v = .string s
 |3 => v = M.val u
 |4 => ∃ g, lo ≤ g ∧ v = .slice (some ⟨g, 0, none⟩) 1 1 ∧ w.heap[g]? = some (L6 M u)
 |5 => ∃ s g, Ao s ∧ lo ≤ g ∧ v = .agg #[.int .i64 5, .int .i64 0, .string s, .slice (some ⟨g, 0, none⟩) 1 1] ∧ w.heap[g]? = some (L6 M u)
 |_ => True
theorem o5 {lo sb r : Nat} {M : Nd} {u : Value} {w w' : World} (h : Wr sb r w w') (hs : sb < lo) (hr : r < lo) (i : Nat) (v : Value) (hv : Ql lo sb M u i w v) : Ql lo sb M u i w' v := by
 match i, hv with
 |0, hv => exact hv
 |1, ⟨g, h1, h2, h3⟩ =>
  refine ⟨g, h1, h2, fun i hi => ?_⟩
  obtain ⟨s, hp, hc⟩ := h3 i hi
  exact ⟨s, hp, (World.cell?_of_block (a := ⟨g, 0 + i, none⟩) (h.block g (qR hc) (by omega) (by omega))).trans hc⟩
 |2, hv => exact hv
 |3, hv => exact hv
 |4, ⟨g, h1, h2, h3⟩ => exact ⟨g, h1, h2, (h.block g (Array.getElem?_eq_some_iff.1 h3).1 (by omega) (by omega)).trans h3⟩
 |5, ⟨s, g, h0, h1, h2, h3⟩ => exact ⟨s, g, h0, h1, h2, (h.block g (Array.getElem?_eq_some_iff.1 h3).1 (by omega) (by omega)).trans h3⟩
 |(i + 6), _ => exact trivial
def R12 (sb A : Nat) (w W v : World) : Prop := DW sb A w v ∧ Kp sb W v
def R12' (sb A : Nat) (w W : World) (M : Nd) (u : Value) (v : World) : Prop := ∃ v0 s g, R12 sb A w W v0 ∧ Ao s ∧ w.heap.size + 1 ≤ g ∧ v0.heap[g]? = some (L6 M u) ∧ v = iN v0 w.heap.size 5 0 s (.slice (some ⟨g, 0, none⟩) 1 1)
def S12 (sb A : Nat) (w W : World) (M : Nd) (u : Value) (l : Array Bool) (v : World) : Prop :=
 S1 6 (R12 sb (A + 3) w W) (R12' sb (A + 3) w W M u) l v ∧ (l.getD 2 false = false → Src sb A v)
theorem S12.start {sb A : Nat} {w W : World} (M : Nd) (u : Value) (h : DW sb A w W) : S12 sb A w W M u (Array.replicate 7 false) W.drew :=
 ⟨S1.start _ _ ⟨⟨(h.drew.src).mono (by omega), h.drew.kp, h.low⟩, b7 ((Below.refl W.heap.size W).drew) _⟩, fun _ => h.drew.src⟩
theorem S12.calm {sb A : Nat} {w W : World} {M : Nd} {u : Value} {l : Array Bool} {v v' : World} (h : S12 sb A w W M u l v) {i : Nat} (hi : i < 6) (h2 : i ≠ 2) (hu : l.getD i true = false) (hb : Below v.heap.size v v') : S12 sb A w W M u (l.setIfInBounds i true) v' := by
 obtain ⟨_, hd, hk⟩ := h.1.low hi hu
 refine ⟨h.1.put hi hu ⟨hd.calm hb, hk.trans (b7 hb _) (fun _ _ h => h)⟩, fun e => ?_⟩
 rw [bq h2] at e
 exact (h.2 e).calm hb
theorem S12.pick {sb A : Nat} {w W : World} {M : Nd} {u : Value} {l : Array Bool} {v v' : World} (h : S12 sb A w W M u l v) (hl : 2 < l.size) (hu : l.getD 2 true = false) (hs : Src sb (A + 3) v') (hk : Kp sb v v') : S12 sb A w W M u (l.setIfInBounds 2 true) v' := by
 obtain ⟨_, hd, zL⟩ := h.1.low (show 2 < 6 by omega) hu
 refine ⟨h.1.put (by omega) hu ⟨hd.step hs hk, zL.trans hk (fun _ _ h => h)⟩, fun e => ?_⟩
 rw [iR hl] at e
 cases e
theorem S12.store {sb A : Nat} {w W : World} {M : Nd} {u : Value} {l : Array Bool} {v : World} (h : S12 sb A w W M u l v) (hl : 6 < l.size) (hu : l.getD 6 true = false) (hd : ∀ i, i < 6 → l.getD i false = true) {s : ByteArray} {g : Nat} (hs : Ao s) (hg : w.heap.size + 1 ≤ g) (hb : v.heap[g]? = some (L6 M u)) :
  S12 sb A w W M u (l.setIfInBounds 6 true) (iN v w.heap.size 5 0 s (.slice (some ⟨g, 0, none⟩) 1 1)) := by
 obtain ⟨h1, h2⟩ := h.1.last hl hu hd
 refine ⟨h2 _ ⟨v, s, g, h1, hs, hg, hb, rfl⟩, fun e => ?_⟩
 rw [bq (by omega : (6 : Nat) ≠ 2), hd 2 (by omega)] at e
 cases e
theorem Wr.of_put (sb b : Nat) (W : World) (k n : Int) (s : ByteArray) (u : Value) : Wr sb b W (iN W b k n s u) := ⟨by rw [lF]; exact Nat.le_refl _, fun i _ _ hi => iA W b k n s u i hi⟩
section
open Go Go.RowKit
def Shut (ops : Array Oper) (l : Array Bool) : Prop := ∀ i o, l.getD i false = true → ops[i]? = some o → ∀ e ∈ o.after, Region.binds .any e = true → l.getD e.on false = true
def anc (ops : Array Oper) : Nat → Nat → Nat → Bool
 |0, i, j => i == j
 |f + 1, i, j => i == j || match ops[i]? with | some o => o.after.any (fun e => Region.binds .any e && anc ops f e.on j) | none => false
theorem Shut.anc {ops : Array Oper} {l : Array Bool} (h : Shut ops l) : ∀ {f i j : Nat}, anc ops f i j = true → l.getD i false = true → l.getD j false = true
 |0, i, j, ha, hi => by
  have : i = j := by simpa [Go.Proofs.YtkfbbdhidecefaaDoor.anc] using ha
  subst this; exact hi
 |f + 1, i, j, ha, hi => by
  unfold Go.Proofs.YtkfbbdhidecefaaDoor.anc at ha
  rw [Bool.or_eq_true] at ha
  rcases ha with ha | ha
  ·have : i = j := by simpa using ha
   subst this; exact hi
  ·cases ho : ops[i]? with
   |none => rw [ho] at ha; cases ha
   |some o =>
    rw [ho] at ha
    simp only [Array.any_eq_true'] at ha
    obtain ⟨e, he, hx⟩ := ha
    rw [Bool.and_eq_true] at hx
    exact h.anc hx.2 (h i o hi ho e he hx.1)
structure Inv3 (ops : Array Oper) (d : Nat → Nat) (V : Nat → World → Value → Prop) (S : Array Bool → World → Prop) (a0 : Act) (l : Array Bool) (a : Act) (w : World) : Prop where
 lsize : l.size = ops.size
 size : a.tmps.size = a0.tmps.size
 keep : ∀ t, (∀ i, i < ops.size → t ≠ d i) → a.eval (.tmp t) = a0.eval (.tmp t)
 defers : a.defers = a0.defers
 shut : Shut ops l
 s : S l w
 vals : ∀ i, i < ops.size → l.getD i false = true → V i w (a.eval (.tmp (d i)))
theorem ox (n i : Nat) : (Array.replicate n false).getD i false = false := by
 rw [Array.getD_eq_getD_getElem?, Array.getElem?_replicate]; split <;> rfl
theorem za {ops : Array Oper} {l : Array Bool} {i : Nat} (h : Shut ops l) (hr : i ∈ Region.ready .any ops l) : Shut ops (l.setIfInBounds i true) := by
 intro k o hk ho e he hb
 by_cases ek : i = k
 ·subst ek
  exact ow (gE hr ho e he hb)
 ·rw [bq ek] at hk
  exact ow (h k o hk ho e he hb)
theorem Inv3.put {ops : Array Oper} {d : Nat → Nat} {V : Nat → World → Value → Prop} {S : Array Bool → World → Prop} {a0 : Act} {l : Array Bool} {a : Act} {w w' : World} (h : Inv3 ops d V S a0 l a w) (hd : ∀ i j, i < ops.size → j < ops.size → d i = d j → i = j) {i : Nat} (hr : i ∈ Region.ready .any ops l) (bP : d i < a0.tmps.size)
  (hV : ∀ j v, l.getD j false = true → V j w v → V j w' v) (hS : S (l.setIfInBounds i true) w') {v : Value} (hv : V i w' v) : Inv3 ops d V S a0 (l.setIfInBounds i true) (a.put (some (d i)) v) w' := by
 have hi := (bd hr).1
 have zE : ∀ t, (a.put (some (d i)) v).eval (.tmp t) = if t = d i then v else a.eval (.tmp t) := by
  intro t
  show (a.tmps.setIfInBounds (d i) v).getD t undef = _
  rw [Array.getD_eq_getD_getElem?, Array.getElem?_setIfInBounds]
  by_cases e : d i = t
  ·subst e
   rw [if_pos rfl, if_pos rfl, if_pos (by rw [h.size]; exact bP)]; rfl
  ·rw [if_neg e, if_neg (fun x => e x.symm)]
   show _ = a.tmps.getD t undef
   rw [Array.getD_eq_getD_getElem?]
 refine ⟨by simp [h.lsize], by show (a.tmps.setIfInBounds (d i) v).size = _; rw [Array.size_setIfInBounds]; exact h.size, fun t ht => ?_, h.defers, za h.shut hr, hS, fun j hj hl => ?_⟩
 ·rw [zE, if_neg (ht i hi)]; exact h.keep t ht
 ·rw [zE]
  by_cases e : d j = d i
  ·rw [if_pos e, hd j i hj hi e]
   exact hv
  ·rw [if_neg e]
   have fE : ¬ i = j := fun x => e (by rw [x])
   rw [bq fE] at hl
   exact hV j _ hl (h.vals j hj hl)
theorem Inv3.none {ops : Array Oper} {d : Nat → Nat} {V : Nat → World → Value → Prop} {S : Array Bool → World → Prop} {a0 : Act} {l : Array Bool} {a : Act} {w w' : World} (h : Inv3 ops d V S a0 l a w) {i : Nat} (hr : i ∈ Region.ready .any ops l)
  (hV : ∀ j v, l.getD j false = true → V j w v → V j w' v) (hS : S (l.setIfInBounds i true) w') (hv : ∀ v, V i w' v) : Inv3 ops d V S a0 (l.setIfInBounds i true) a w' := by
 refine ⟨by simp [h.lsize], h.size, h.keep, h.defers, za h.shut hr, hS, fun j hj hl => ?_⟩
 by_cases e : i = j
 ·subst e; exact hv _
 ·rw [bq e] at hl
  exact hV j _ hl (h.vals j hj hl)
theorem fO {P : Program} {ops : Array Oper} {Q : Exit → Act → World → Prop} {id : Nat} {a0 : Act} {w0 : World} (hm : P.follows .mixedOrders = true) (he : early ops = true) (d : Nat → Nat) (V : Nat → World → Value → Prop) (S : Array Bool → World → Prop) (hS : S (Array.replicate ops.size false) w0.drew)
  (zz : ∀ (l : Array Bool) (a : Act) (w : World) (i : Nat), Inv3 ops d V S a0 l a w → i ∈ Region.ready .any ops l → wpOp P ops Q i (fun a' w' => Inv3 ops d V S a0 (l.setIfInBounds i true) a' w') a w)
  (oB : ∀ (a : Act) (w : World), a.tmps.size = a0.tmps.size → a.defers = a0.defers → (∀ t, (∀ i, i < ops.size → t ≠ d i) → a.eval (.tmp t) = a0.eval (.tmp t)) → (∃ l : Array Bool, S l w ∧ ∀ i, i < ops.size → l.getD i false = true) → (∀ i, i < ops.size → V i w (a.eval (.tmp (d i)))) → Q .normal a w) : (Code.region id ops true).wp P Q a0 w0 := by
 refine wp_region_any hm ?_
 refine wy (Inv3 ops d V S a0) zz (fun l a w hI hr => ?_) ops.size _ a0 _ ?_ ⟨by simp, rfl, fun _ _ => rfl, rfl, fun i o hi => (by rw [ox] at hi; cases hi), hS, fun i hi hl => (by rw [ox] at hl; cases hl)⟩
 ·have Qd := fun i (hi : i < ops.size) => getD_in (by rw [hI.lsize]; exact hi) (rj he hI.lsize hr i hi)
  exact oB a w hI.size hI.defers hI.keep ⟨l, hI.s, Qd⟩ fun i hi => hI.vals i hi (Qd i hi)
 ·unfold LY
  exact Nat.le_trans List.countP_le_length (by simp)
structure Wn (lo : Nat) (w w' : World) : Prop where
 size : w.heap.size ≤ w'.heap.size
 block : ∀ k, lo ≤ k → k < w.heap.size → w'.heap[k]? = w.heap[k]?
theorem Wn.refl (lo : Nat) (w : World) : Wn lo w w := ⟨Nat.le_refl _, fun _ _ _ => rfl⟩
theorem Wn.of_kp {sb lo : Nat} {w w' : World} (h : Kp sb w w') (hs : sb < lo) : Wn lo w w' := ⟨h.size, fun k h1 h2 => h.block k h2 (by omega)⟩
theorem Wn.of_calm {lo : Nat} {w w' : World} (h : Below w.heap.size w w') : Wn lo w w' := ⟨h.size, fun k _ h2 => h.block k h2⟩
theorem Wn.of_grown {lo : Nat} {w w' : World} {row : Option Nat} (h : w.grownBy w' row) (hr : ∀ k, row = some k → k < lo) : Wn lo w w' := ⟨h.size, fun k h1 h2 => h.block k h2 (fun e => by have := hr k e.symm; omega)⟩
theorem Wn.of_set {lo b o : Nat} {w : World} {x : Value} (h : b < lo) : Wn lo w (w.setCell ⟨b, o, none⟩ x) := ⟨by simp [World.setCell], fun k h1 _ => Below.heap_setCell _ _ _ _ (by show k ≠ b; omega)⟩
theorem Wn.row {lo : Nat} {w w' : World} (h : Wn lo w w') {T : Nd} {v : Value} (hr : Row lo w.heap.size w T v) : Row lo w'.heap.size w' T v :=
 gn lr h.size (fun g o h1 h2 => World.cell?_of_block (a := ⟨g, o, none⟩) (h.block g h1 h2)) hr
def TV (lo : Nat) (P : Nd → Prop) (w : World) (x : Value) : Prop := ∃ T a c, P T ∧ x = T.val (.slice a T.len c) ∧ Row lo w.heap.size w T (.slice a T.len c)
def LV (lo : Nat) (P : Nd → Prop) (w : World) (x : Value) : Prop := ∃ T a c, P T ∧ x = .slice a T.len c ∧ Row lo w.heap.size w T (.slice a T.len c)
theorem TV.stable {lo : Nat} {P : Nd → Prop} {w w' : World} {x : Value} (h : Wn lo w w') (hx : TV lo P w x) : TV lo P w' x := by
 obtain ⟨T, a, c, h1, h2, h3⟩ := hx; exact ⟨T, a, c, h1, h2, h.row h3⟩
theorem LV.stable {lo : Nat} {P : Nd → Prop} {w w' : World} {x : Value} (h : Wn lo w w') (hx : LV lo P w x) : LV lo P w' x := by
 obtain ⟨T, a, c, h1, h2, h3⟩ := hx; exact ⟨T, a, c, h1, h2, h.row h3⟩
theorem TV.leaf (lo : Nat) {P : Nd → Prop} (w : World) {k n : Int} {s : ByteArray} (h : P (al k n s)) : TV lo P w (.agg #[.int .i64 k, .int .i64 n, .string s, .slice none 0 0]) :=
 ⟨al k n s, none, 0, h, rfl, gD _ _ _ _ _ _⟩
theorem TV.node {lo : Nat} {P Q : Nd → Prop} {w : World} {a : Option Addr} {c : Nat} {T : Nd} (k n : Int) (s : ByteArray) (hq : Q (.mk k n s T.len T.kids)) (hr : Row lo w.heap.size w T (.slice a T.len c)) : TV lo Q w (.agg #[.int .i64 k, .int .i64 n, .string s, .slice a T.len c]) :=
 ⟨.mk k n s T.len T.kids, a, c, hq, rfl, (ar (T := .mk k n s T.len T.kids)).2 ((ar (T := T)).1 hr)⟩
theorem LV.one {lo : Nat} {w : World} {A : Nd} {u : Value} (lh : lo ≤ w.heap.size) (h : Row lo w.heap.size w A u) : Row lo (w.alloc (.cells #[.int .i64 A.kind, .int .i64 A.num, .string A.name, u] 27)).heap.size (w.alloc (.cells #[.int .i64 A.kind, .int .i64 A.num, .string A.name, u] 27)) (cm 0 0 ⟨#[]⟩ A) (.slice (some ⟨w.heap.size, 0, none⟩) 1 1) := by
 have hr := (Wn.of_calm (lo := lo) (bO w (.cells #[.int .i64 A.kind, .int .i64 A.num, .string A.name, u] 27))).row h
 refine my lh (by simp) lr (by omega) fun i hi => ?_
 obtain rfl : i = 0 := by omega
 refine ⟨u, ?_, ?_, ?_, ?_, hr⟩ <;> simp [go_sem]
theorem LV.two {lo : Nat} {w : World} {A B : Nd} {u v : Value} (lh : lo ≤ w.heap.size) (h : Row lo w.heap.size w A u) (h' : Row lo w.heap.size w B v) : Row lo (w.alloc (.cells #[.int .i64 A.kind, .int .i64 A.num, .string A.name, u, .int .i64 B.kind, .int .i64 B.num, .string B.name, v] 27)).heap.size (w.alloc (.cells #[.int .i64 A.kind, .int .i64 A.num, .string A.name, u, .int .i64 B.kind, .int .i64 B.num, .string B.name, v] 27)) (gO 0 0 ⟨#[]⟩ A B) (.slice (some ⟨w.heap.size, 0, none⟩) 2 2) := by
 have hw := Wn.of_calm (lo := lo) (bO w (.cells #[.int .i64 A.kind, .int .i64 A.num, .string A.name, u, .int .i64 B.kind, .int .i64 B.num, .string B.name, v] 27))
 refine my lh (by simp) lr (by omega) fun i hi => ?_
 have : i = 0 ∨ i = 1 := by omega
 rcases this with rfl | rfl
 ·refine ⟨u, ?_, ?_, ?_, ?_, hw.row h⟩ <;> simp [go_sem]
 ·refine ⟨v, ?_, ?_, ?_, ?_, hw.row h'⟩ <;> simp [go_sem]
def nW (k n : Int) (s : ByteArray) (A B C : Nd) : Nd := .mk k n s 3 (fun i => if i = 0 then A else if i = 1 then B else C)
theorem LV.three {lo : Nat} {w : World} {A B C : Nd} {u v x : Value} (lh : lo ≤ w.heap.size) (h : Row lo w.heap.size w A u) (h' : Row lo w.heap.size w B v) (h'' : Row lo w.heap.size w C x) : Row lo (w.alloc (.cells #[.int .i64 A.kind, .int .i64 A.num, .string A.name, u, .int .i64 B.kind, .int .i64 B.num, .string B.name, v, .int .i64 C.kind, .int .i64 C.num, .string C.name, x] 27)).heap.size (w.alloc (.cells #[.int .i64 A.kind, .int .i64 A.num, .string A.name, u, .int .i64 B.kind, .int .i64 B.num, .string B.name, v, .int .i64 C.kind, .int .i64 C.num, .string C.name, x] 27)) (nW 0 0 ⟨#[]⟩ A B C) (.slice (some ⟨w.heap.size, 0, none⟩) 3 3) := by
 have hw := Wn.of_calm (lo := lo) (bO w (.cells #[.int .i64 A.kind, .int .i64 A.num, .string A.name, u, .int .i64 B.kind, .int .i64 B.num, .string B.name, v, .int .i64 C.kind, .int .i64 C.num, .string C.name, x] 27))
 refine my lh (by simp) lr (by omega) fun i hi => ?_
 have : i = 0 ∨ i = 1 ∨ i = 2 := by omega
 rcases this with rfl | rfl | rfl
 ·refine ⟨u, ?_, ?_, ?_, ?_, hw.row h⟩ <;> simp [go_sem]
 ·refine ⟨v, ?_, ?_, ?_, ?_, hw.row h'⟩ <;> simp [go_sem]
 ·refine ⟨x, ?_, ?_, ?_, ?_, hw.row h''⟩ <;> simp [go_sem]
def vK (asks : Nat → Nat) (l : Array Bool) : Nat → Nat
 |0 => 0
 |n + 1 => vK asks l n + (if l.getD n false = true then asks n else 0)
theorem ng (asks : Nat → Nat) (l : Array Bool) : ∀ n, vK asks l n ≤ ag asks n
 |0 => Nat.le_refl _
 |n + 1 => by have := ng asks l n; simp only [vK, ag]; split <;> omega
theorem tG {asks : Nat → Nat} {l : Array Bool} {i : Nat} (hi : i < l.size) (hu : l.getD i false = false) : ∀ {n : Nat}, vK asks (l.setIfInBounds i true) n = vK asks l n + (if i < n then asks i else 0)
 |0 => by simp [vK]
 |n + 1 => by
  have ih := tG (asks := asks) hi hu (n := n)
  simp only [vK]
  rw [ih]
  by_cases e : i = n
  ·subst e
   rw [iR hi, hu, if_neg (Nat.lt_irrefl _), if_pos (Nat.lt_succ_self _)]
   simp
  ·rw [bq e]
   by_cases h : i < n
   ·have e1 : (if i < n then asks i else 0) = asks i := if_pos h
    have e2 : (if i < n + 1 then asks i else 0) = asks i := if_pos (by omega)
    rw [e1, e2]; omega
   ·have e1 : (if i < n then asks i else 0) = 0 := if_neg h
    have e2 : (if i < n + 1 then asks i else 0) = 0 := if_neg (by omega)
    rw [e1, e2]; omega
theorem xH {asks : Nat → Nat} {l : Array Bool} {i : Nat} (hu : l.getD i false = false) : ∀ {n : Nat}, i < n → vK asks l n + asks i ≤ ag asks n
 |n + 1, h => by
  simp only [vK, ag]
  by_cases e : i = n
  ·subst e
   have := ng asks l i
   rw [hu]; simp; omega
  ·have := xH hu (n := n) (asks := asks) (by omega)
   split <;> omega
theorem Fi (asks : Nat → Nat) (n k : Nat) : vK asks (Array.replicate k false) n = 0 := by
 induction n with
 |zero => rfl
 |succ n ih => simp only [vK]; rw [ih, ox]; simp
end
section
open Go Go.RowKit
theorem zd {lo hi : Nat} {w : World} {T : Nd} {a : Option Addr} {c : Nat} (h : Row lo hi w T (.slice a T.len c)) (hn : T.len ≠ 0) : ∃ g off us, a = some ⟨g, off, none⟩ ∧ lo ≤ g ∧ g < hi ∧ (∀ j u, (fL T.kids us T.len)[j]? = some u → w.cell? ⟨g, off + j, none⟩ = some u) ∧ ∀ i, i < T.len → (∃ b d, us i = .slice b (T.kids i).len d) ∧ Row lo hi w (T.kids i) (us i) := by
 obtain ⟨a', c', he, _, hq⟩ := ar.1 h
 injection he with e1 _ e3
 subst e1 e3
 rcases hq with h0 | ⟨g, off, rfl, h1, h2, h3⟩
 ·exact absurd h0 hn
 have hin : Inhabited Value := ⟨undef⟩
 obtain ⟨us, GF⟩ := Go.Deep.choose_lt (n := T.len) h3
 refine ⟨g, off, us, rfl, h1, h2, fun j u hj => ?_, fun i hi => ⟨?_, (GF i hi).2.2.2.2⟩⟩
 ·have hl := mX T.kids us T.len
  have zM : j < T.len * 4 := by rw [← hl]; exact (List.getElem?_eq_some_iff.1 hj).1
  obtain ⟨q, r, P3, rfl⟩ : ∃ q r, r < 4 ∧ j = q * 4 + r := ⟨j / 4, j % 4, by omega, by omega⟩
  obtain ⟨c0, c1, c2, c3, _⟩ := GF q (by omega)
  obtain ⟨f0, f1, f2, f3⟩ := pI T.kids us (show q < T.len by omega)
  rcases (by omega : r = 0 ∨ r = 1 ∨ r = 2 ∨ r = 3) with rfl | rfl | rfl | rfl
  ·rw [Nat.add_zero] at hj ⊢; rw [hj] at f0; rw [Option.some.inj f0]; exact c0
  ·rw [hj] at f1; rw [Option.some.inj f1, ← Nat.add_assoc]; exact c1
  ·rw [hj] at f2; rw [Option.some.inj f2, ← Nat.add_assoc]; exact c2
  ·rw [hj] at f3; rw [Option.some.inj f3, ← Nat.add_assoc]; exact c3
 ·obtain ⟨b, d, hb, _⟩ := ar.1 (GF i hi).2.2.2.2
  exact ⟨b, d, hb⟩
def fW {α : Type} (f : Nat → α) (j : Nat) (g : Nat → α) : Nat → α := fun i => if i < j then f i else g (i - j)
theorem bh {α : Type} (f : Nat → α) {j i : Nat} (g : Nat → α) (h : i < j) : fW f j g i = f i := if_pos h
theorem bN {α : Type} (f : Nat → α) {j i : Nat} (g : Nat → α) (h : j ≤ i) : fW f j g i = g (i - j) := if_neg (by omega)
theorem qZ (Ts Us : Nat → Nd) (us vs : Nat → Value) (j : Nat) : ∀ m, fL (fW Ts j Us) (fW us j vs) (j + m) = fL Ts us j ++ fL Us vs m
 |0 => by
  have : ∀ k, k ≤ j → fL (fW Ts j Us) (fW us j vs) k = fL Ts us k := by
   intro k
   induction k with
   |zero => intro _; rfl
   |succ k ih => intro hk; simp only [fL]; rw [ih (by omega), bh _ _ (show k < j by omega), bh _ _ (show k < j by omega)]
  simp [fL, this j lr]
 |m + 1 => by
  rw [← Nat.add_assoc]
  simp only [fL]
  rw [qZ Ts Us us vs j m, bN _ _ (show j ≤ j + m by omega), bN _ _ (show j ≤ j + m by omega), show j + m - j = m by omega, List.append_assoc]
theorem xp {Ts : Nat → Nd} {us : Nat → Value} : ∀ {n : Nat}, (∀ i, i < n → ∃ b l d, us i = .slice b l d) → ∀ u ∈ fL Ts us n, u.oneCell' = true
 |0, _, u, hu => by cases hu
 |n + 1, h, u, hu => by
  simp only [fL] at hu
  rcases List.mem_append.1 hu with hu | hu
  ·exact xp (fun i hi => h i (by omega)) u hu
  ·obtain ⟨b, l, d, hd⟩ := h n (Nat.lt_succ_self _)
   rw [hd] at hu
   simp at hu
   rcases hu with rfl | rfl | rfl | rfl <;> rfl
theorem nE {B j lo hi : Nat} {Ts : Nat → Nd} {us : Nat → Value} {s e : Nat → Nat} {ka : Option Addr} {kc : Nat} {v : World} {T : Nd} {ua : Option Addr} {uc : Nat} (h : Gw B Ts us s e j (.slice ka j kc) v) (ht : Row lo hi v T (.slice ua T.len uc)) (hB : B ≤ v.heap.size) (hl : B ≤ lo) (Kw : lo ≤ hi) (hh : hi ≤ v.heap.size) (bB : ∀ g, (Value.slice ka j kc).ownBlock = some g → g < lo ∨ hi ≤ g) (hn : j + T.len ≤ 1000000) :
  ∃ a c v' vs, (∀ ty, (Builtin.append_ #[25, 25] ty #[.slice ka j kc, .slice ua T.len uc]).run Tryd.prog v = .ok (.slice a (j + T.len) c) v') ∧ Gw B (fW Ts j T.kids) (fW us j vs) (fW s j (fun _ => lo)) (fW e j (fun _ => hi)) (j + T.len) (.slice a (j + T.len) c) v' ∧ v.grownBy v' (Value.slice ka j kc).ownBlock ∧
   ((Value.slice a (j + T.len) c).ownBlock = (Value.slice ka j kc).ownBlock ∨ ∃ k, (Value.slice a (j + T.len) c).ownBlock = some k ∧ v.heap.size ≤ k) := by
 obtain ⟨i0, qn, qm, hZ, hQ⟩ := info_parts zv
 by_cases h0 : T.len = 0
 ·have hs : Go.Src Tryd.prog i0.size 25 (.slice ua T.len uc) 0 [] v := by
   rw [h0]
   exact bH0
  have hle : j ≤ kc := by
   rcases h.own.2 with ⟨e1, e2⟩ | ⟨g, cap, cur, e1, _, _, h4, _⟩
   ·injection e1 with _ _ e3; omega
   ·injection e1 with _ _ e3; omega
  refine ⟨ka, kc, v, us, fun ty => ?_, ?_, ⟨rfl, rfl, rfl, Nat.le_refl _, fun _ _ _ => rfl⟩, ?_⟩
  ·rw [h0, Nat.add_zero]
   rw [h0] at hs
   exact run_append_nothing (P := Tryd.prog) v 25 25 ty 27 i0 Tryd.underlying25 qn ka j kc hle _ hs
  ·rw [h0, Nat.add_zero]
   refine ⟨?_, fun i nx => ?_, fun i nx g hg => ?_⟩
   ·have := qZ Ts T.kids us us j 0
    rw [Nat.add_zero] at this
    rw [this]; simpa [fL] using h.own
   ·rw [bh _ _ nx, bh _ _ nx, bh _ _ nx, bh _ _ nx]; exact h.kid i nx
   ·rw [bh _ _ nx, bh _ _ nx]; exact h.apart i nx g hg
  ·rw [h0, Nat.add_zero]; exact .inl rfl
 ·obtain ⟨g, off, vs, rfl, SF, hg2, lR, bz⟩ := zd ht h0
  obtain ⟨v', w', hr, bK, aD, iU, a, c, rfl⟩ := og (P := Tryd.prog) v B 25 25 27 i0 _ 4 56 Tryd.underlying25 qn qm hZ hQ rfl (by decide) _ j _ h.own ⟨g, off, none⟩ T.len uc (fL T.kids vs T.len) (mX _ _ _) (fun k u hk => by rw [Addr.add_lit]; exact lR k u hk) (xp fun i nx => by obtain ⟨b, d, hd⟩ := (bz i nx).1; exact ⟨b, _, d, hd⟩) (by unfold maxLen; omega) (by omega) hB
  have hz := aD.size
  refine ⟨a, c, w', vs, fun ty => hr, ⟨?_, fun i nx => ?_, fun i nx k hk => ?_⟩, aD, iU⟩
  ·rw [qZ]; exact bK
  ·by_cases oA : i < j
   ·rw [bh _ _ oA, bh _ _ oA, bh _ _ oA, bh _ _ oA]
    obtain ⟨k1, k2, k3, k4⟩ := h.kid i oA
    exact ⟨gn lr lr (fun b o h1 h2 => World.cell?_of_block (a := ⟨b, o, none⟩) (aD.block b (by omega) (fun er => by have := h.apart i oA b er.symm; omega))) k1, k2, k3, by omega⟩
   ·rw [bN _ _ (by omega), bN _ _ (by omega), bN _ _ (by omega), bN _ _ (by omega)]
    exact ⟨gn lr lr (fun b o h1 h2 => World.cell?_of_block (a := ⟨b, o, none⟩) (aD.block b (by omega) (fun er => by have := bB b er.symm; omega))) (bz (i - j) (by omega)).2, hl, Kw, by omega⟩
  ·by_cases oA : i < j
   ·rw [bh _ _ oA, bh _ _ oA]
    obtain ⟨k1, k2, k3, k4⟩ := h.kid i oA
    rcases iU with Ek | ⟨q, hq, hqz⟩
    ·exact h.apart i oA k (Ek ▸ hk)
    ·rw [hq] at hk; obtain rfl := Option.some.inj hk; omega
   ·rw [bN _ _ (by omega), bN _ _ (by omega)]
    rcases iU with Ek | ⟨q, hq, hqz⟩
    ·exact bB k (Ek ▸ hk)
    ·rw [hq] at hk; obtain rfl := Option.some.inj hk; omega
theorem vA {B j lo hi g : Nat} {Ts : Nat → Nd} {us : Nat → Value} {s e : Nat → Nat} {v v' : World} {T : Nd} {ua : Option Addr} {uc : Nat} {r : Value} (h : Gw B Ts us s e j (.slice (some ⟨g, 0, none⟩) j j) v) (ht : Row lo hi v T (.slice ua T.len uc)) (hn : j + T.len ≤ 1000000)
  (iS : ∀ ty, (Builtin.append_ #[25, 25] ty #[.slice (some ⟨g, 0, none⟩) j j, .slice ua T.len uc]).run Tryd.prog v = .ok r v') : Below v.heap.size v v' := by
 obtain ⟨i0, qn, qm, hZ, hQ⟩ := info_parts zv
 by_cases h0 : T.len = 0
 ·have hs : Go.Src Tryd.prog i0.size 25 (.slice ua 0 uc) 0 [] v := by
   exact bH0
  have h1 := run_append_nothing (P := Tryd.prog) v 25 25 25 27 i0 Tryd.underlying25 qn (some ⟨g, 0, none⟩) j j lr _ hs
  have h2 := iS 25
  rw [h0, h1] at h2
  injection h2 with _ e2
  subst e2
  exact Below.refl _ _
 ·obtain ⟨g', off, vs, rfl, SF, hg2, lR, bz⟩ := zd ht h0
  have hb : (j + T.len) * i0.bytes ≤ 140737488355328 := by rw [hQ]; omega
  have h1 := run_append_grow (P := Tryd.prog) v 25 25 27 i0 _ Tryd.underlying25 qn qm ⟨g, 0, none⟩ j j (fL Ts us j) (by rw [hZ]; exact h.own.1) (h.own.cells (g := g) rfl) ⟨g', off, none⟩ T.len uc (fL T.kids vs T.len) (by rw [hZ]; exact mX _ _ _) (fun k u hk => by rw [Addr.add_lit]; exact lR k u hk) (by omega) (by omega) (growslice_fits (by omega) hb)
  have h2 := iS 25
  rw [h1] at h2
  injection h2 with _ e2
  subst e2
  exact ((Below.refl _ _).drew).alloc lr _
structure GS (sb A : Nat) (asks : Nat → Nat) (n ap st : Nat) (w W : World) (b : Nat) (F : World → Prop) (l : Array Bool) (v : World) : Prop where
 pre : l.getD ap false = false → DW sb (A + vK asks l n) w v ∧ Kp sb W v
 mid : l.getD ap false = true → l.getD st false = false → DW sb (A + ag asks n) w v ∧ v.heap[b]? = W.heap[b]?
 fin : l.getD st false = true → F v
theorem GS.start {sb A : Nat} {asks : Nat → Nat} {n ap st : Nat} {w W : World} {b : Nat} {F : World → Prop} (k : Nat) (h : DW sb A w W) : GS sb A asks n ap st w W b F (Array.replicate k false) W.drew :=
 ⟨fun _ => ⟨by rw [Fi]; exact h.drew, b7 ((Below.refl W.heap.size W).drew) _⟩, fun e => (by rw [ox] at e; cases e), fun e => (by rw [ox] at e; cases e)⟩
theorem GS.same {sb A : Nat} {asks : Nat → Nat} {n ap st : Nat} {w W : World} {b : Nat} {F : World → Prop} {l : Array Bool} {v : World} {i : Nat} (h : GS sb A asks n ap st w W b F l v) (hl : i < l.size) (hu : l.getD i true = false) (h1 : i ≠ ap) (h2 : i ≠ st) (ha : asks i = 0) : GS sb A asks n ap st w W b F (l.setIfInBounds i true) v := by
 have ht : vK asks (l.setIfInBounds i true) n = vK asks l n := by rw [tG hl (fF hu), ha]; simp
 refine ⟨fun e => ?_, fun e e' => ?_, fun e => ?_⟩
 ·rw [bq h1] at e; rw [ht]; exact h.pre e
 ·rw [bq h1] at e; rw [bq h2] at e'; exact h.mid e e'
 ·rw [bq h2] at e; exact h.fin e
theorem GS.calm {sb A : Nat} {asks : Nat → Nat} {n ap st : Nat} {w W : World} {b : Nat} {F : World → Prop} {l : Array Bool} {v v' : World} {i : Nat} (h : GS sb A asks n ap st w W b F l v) (hl : i < l.size) (hu : l.getD i true = false) (h1 : i ≠ ap) (h2 : i ≠ st) (ha : asks i = 0) (bB : l.getD ap false = false) (aF : l.getD st false = false) (hb : Below v.heap.size v v') : GS sb A asks n ap st w W b F (l.setIfInBounds i true) v' := by
 have ht : vK asks (l.setIfInBounds i true) n = vK asks l n := by rw [tG hl (fF hu), ha]; simp
 obtain ⟨hd, hk⟩ := h.pre bB
 refine ⟨fun _ => ?_, fun e => ?_, fun e => ?_⟩
 ·rw [ht]; exact ⟨hd.calm hb, hk.trans (b7 hb _) (fun _ _ h => h)⟩
 ·rw [bq h1, bB] at e; cases e
 ·rw [bq h2, aF] at e; cases e
theorem GS.ask {sb A : Nat} {asks : Nat → Nat} {n ap st : Nat} {w W : World} {b : Nat} {F : World → Prop} {l : Array Bool} {v v' : World} {i : Nat} (h : GS sb A asks n ap st w W b F l v) (hl : i < l.size) (hn : i < n) (hu : l.getD i true = false) (h1 : i ≠ ap) (h2 : i ≠ st) (bB : l.getD ap false = false) (aF : l.getD st false = false) (hs : Src sb (A + vK asks l n + asks i) v') (hk : Kp sb v v') : GS sb A asks n ap st w W b F (l.setIfInBounds i true) v' := by
 have ht : vK asks (l.setIfInBounds i true) n = vK asks l n + asks i := by rw [tG hl (fF hu), if_pos hn]
 obtain ⟨hd, zL⟩ := h.pre bB
 refine ⟨fun _ => ?_, fun e => ?_, fun e => ?_⟩
 ·rw [ht, ← Nat.add_assoc]; exact ⟨hd.step hs hk, zL.trans hk (fun _ _ h => h)⟩
 ·rw [bq h1, bB] at e; cases e
 ·rw [bq h2, aF] at e; cases e
theorem GS.join {sb A : Nat} {asks : Nat → Nat} {n ap st : Nat} {w W : World} {b : Nat} {F : World → Prop} {l : Array Bool} {v v' : World} {row : Option Nat} (h : GS sb A asks n ap st w W b F l v) (hl : ap < l.size) (hu : l.getD ap true = false) (h2 : ap ≠ st) (aF : l.getD st false = false) (hb : b < W.heap.size) (hbs : b ≠ sb) (hg : v.grownBy v' row) (hr : ∀ k, row = some k → w.heap.size < k ∧ k ≠ b) : GS sb A asks n ap st w W b F (l.setIfInBounds ap true) v' := by
 obtain ⟨hd, hk⟩ := h.pre (fF hu)
 have hz := hk.size
 refine ⟨fun e => (by rw [iR hl] at e; cases e), fun _ _ => ⟨?_, ?_⟩, fun e => (by rw [bq h2, aF] at e; cases e)⟩
 ·have := (hd.grown hg (fun k hk => (hr k hk).1))
  exact ⟨this.src.mono (by have := ng asks l n; omega), this.kp, this.low⟩
 ·exact (hg.block b (by omega) (fun e => (hr b e.symm).2 rfl)).trans (hk.block b hb hbs)
theorem GS.store {sb A : Nat} {asks : Nat → Nat} {n ap st : Nat} {w W : World} {b : Nat} {F : World → Prop} {l : Array Bool} {v' : World} (hl : st < l.size) (bB : ap = st ∨ l.getD ap false = true) (hF : F v') : GS sb A asks n ap st w W b F (l.setIfInBounds st true) v' := by
 refine ⟨fun e => ?_, fun _ e => (by rw [iR hl] at e; cases e), fun _ => hF⟩
 rcases bB with rfl | bB
 ·rw [iR hl] at e; cases e
 ·by_cases e2 : st = ap
  ·subst e2; rw [iR hl] at e; cases e
  ·rw [bq e2, bB] at e; cases e
theorem fN {ops : Array Oper} {l : Array Bool} {f i j : Nat} (h : Shut ops l) (ha : anc ops f j i = true) (hu : l.getD i true = false) : l.getD j false = false := by
 cases e : l.getD j false with
 |false => rfl
 |true => have := h.anc ha e; rw [fF hu] at this; cases this
end
end Go.Proofs.YtkfbbdhidecefaaDoor
