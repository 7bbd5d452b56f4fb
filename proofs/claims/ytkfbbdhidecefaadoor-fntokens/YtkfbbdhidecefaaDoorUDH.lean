import Derived.Test.YtkfbbdhidecefaaDoorUDG
set_option linter.unusedVariables false
set_option maxHeartbeats 16000000
set_option maxRecDepth 100000
namespace Go.Proofs.YtkfbbdhidecefaaDoor
open Go.RowKit
variable {G : Prop}
theorem bN0 (h : G := by
 have S5 := PY.out
 have fY := S5.gw.own
 have OWA := aa fY
 clear S5 fY
 go_wp2_with (at_builtin; refine bE _ rfl _ _ 25 rfl lo 27 i0 (.agg #[.int .i64 0, .int .i64 0, .string ⟨#[]⟩, .slice none 0 0]) 4 56 Tryd.underlying25 qn Rl Rk Rj rfl (by decide) _ j _ rfl (OWA.out.alloc _) ⟨wr.heap.size, 0, none⟩ 1 1 [.int .i64 (TB.kids i).kind, .int .i64 (TB.kids i).num, .string (TB.kids i).name, .slice bu (TB.kids i).len du] rfl rfl (oY _ _ _ _ _ _) (oX _ _ _ _ _ _) (by unfold maxLen; omega) (by omega) (by simp; omega) ?_; intro v' w9 bK aD iU zC; obtain ⟨sI, sH, xg⟩ := zC.out; subst xg)
 exact ⟨⟨i + 1, j + 1, _, _, _, _, sI, sH, by omega, rfl, by go_num, (PY.out.calm (bA)).step (ae (bO wr _) (by omega) HU.out) HKF.out.1 HKF.out.2 bK.out aD.out iU.out⟩, by simp [intOf]; omega⟩) : G := h
theorem bN1 (h : G := by
 have := List.all_eq_true.1 (List.all_eq_true.1 this i (List.mem_range.2 hi)) j (List.mem_range.2 hj)
 simpa [h] using this) : G := h
section
open Go Go.RowKit
def L7 (q : Nat) : Nd := cm 26 0 ⟨#[]⟩ (al 22 q ⟨#[]⟩)
def sQ (q : Nat) : Nd := cm 5 0 ⟨#[109]⟩ (L7 q)
def wK (k : Nat) : ByteArray := (⟨#[84, 101, 115, 116]⟩ : ByteArray) ++ cr (gQ 20 k)
theorem Jl (k : Nat) (h : k < 2) : ck (wK k) = true ∧ (wK k).size ≤ 40 := by
 rcases (by omega : k = 0 ∨ k = 1) with rfl | rfl <;> exact ⟨by decide, by decide⟩
theorem Ld (q : Nat) (h : q < 2) : (sQ q).Fine ∧ (sQ q).sOk = true ∧ (sQ q).cost ≤ 100 := by
 refine ⟨bF (by omega) (by omega) (by decide) (bF (by omega) (by omega) (by decide) (aC (by omega) (by omega) (by decide))), ?_, ?_⟩
 ·have h1 : (al 22 q ⟨#[]⟩).eOk = true := mQ (by omega)
  have h2 : (L7 q).eOk = true := by
   rw [b8]
   show cq 26 0 ⟨#[]⟩ 1 (fun i => (al 22 q ⟨#[]⟩).eOk) _ _ = true
   simp [cq, cM, az, h1]
  exact qb (.inl rfl) (by decide) h2
 ·rcases (by omega : q = 0 ∨ q = 1) with rfl | rfl <;> decide
def I9 (D : Nat) (T : Nd) : Prop := T.Fine ∧ fR T = true ∧ T.cost ≤ D
theorem KQ {C k : Nat} {L : Nd} (hk : k < 2) (h : mo C L) : I9 (C + 50) (cm 2 0 (wK k) L) := by
 obtain ⟨h1, h2⟩ := Jl k hk
 refine ⟨bF (by omega) (by omega) (by omega) h.1, ?_, ?_⟩
 ·unfold fR
  simp [cm, Nd.kind, Nd.num, Nd.name, Nd.len, Nd.kids, cM, h1, h.2.1.2]
  exact decide_eq_true h.2.1.1
 ·rw [cH]
  have := h.2.2
  omega
theorem wM (Ts Us : Nat → Nd) (m : Nat) : ∀ {j : Nat}, j ≤ m → ag (fun i => (fW Ts m Us i).cost) j = ag (fun i => (Ts i).cost) j
 |0, _ => rfl
 |j + 1, h => by
  simp only [ag]
  rw [wM Ts Us m (show j ≤ m by omega), bh _ _ (show j < m by omega)]
structure PI (sb A D : Nat) (w : World) (ob k : Nat) (Ts : Nat → Nd) (us : Nat → Value) (s e : Nat → Nat) (ka : Option Addr) (kc : Nat) (W : World) : Prop where
 dw : DW sb A w W
 low : w.heap.size < ob
 obx : W.heap[ob]? = some (lV 1 0 ⟨#[]⟩ ka (4 + k) kc)
 gw : Gw (w.heap.size + 1) Ts us s e (4 + k) (.slice ka (4 + k) kc) W
 ne : (Value.slice ka (4 + k) kc).ownBlock ≠ some ob
 ap : ∀ i, i < 4 + k → ob < s i ∨ e i ≤ ob
 ok : ∀ i, i < 4 + k → (Ts i).Fine ∧ fR (Ts i) = true
 sum : ag (fun i => (Ts i).cost) (4 + k) ≤ 1000 + k * D
theorem PI.kp {sb A A' D : Nat} {w : World} {ob k : Nat} {Ts : Nat → Nd} {us : Nat → Value} {s e : Nat → Nat} {ka : Option Addr} {kc : Nat} {W W' : World} (h : PI sb A D w ob k Ts us s e ka kc W) (hs : Src sb A' W') (hk : Kp sb W W') : PI sb A' D w ob k Ts us s e ka kc W' := by
 have hl := h.dw.low
 have h2 := h.low
 exact ⟨h.dw.step hs hk, h.low, bG h.obx (by omega) hk, h.gw.kp (sb := sb) (by omega) hk, h.ne, h.ap, h.ok, h.sum⟩
theorem PI.calm {sb A D : Nat} {w : World} {ob k : Nat} {Ts : Nat → Nd} {us : Nat → Value} {s e : Nat → Nat} {ka : Option Addr} {kc : Nat} {W W' : World} (h : PI sb A D w ob k Ts us s e ka kc W) (hb : Below W.heap.size W W') : PI sb A D w ob k Ts us s e ka kc W' := h.kp (h.dw.src.calm hb) (b7 hb _)
def PE (sb A D : Nat) (w : World) (ob k : Nat) (W : World) : Prop := ∃ (Ts : Nat → Nd) (us : Nat → Value) (s e : Nat → Nat) (ka : Option Addr) (kc : Nat), PI sb A D w ob k Ts us s e ka kc W
theorem PI.done {sb A D : Nat} {w : World} {ob k : Nat} {Ts : Nat → Nd} {ka : Option Addr} {kc : Nat} {v : World} {x : Value} (hd : DW sb A w v) (sJ : w.heap.size < ob) (hb : v.heap[ob]? = some (lV 1 0 ⟨#[]⟩ ka (4 + k) kc)) (h : AV (w.heap.size + 1) ob (4 + k + 1) (fun Us => ∃ A, I9 D A ∧ Us = fW Ts (4 + k) (cm 0 0 ⟨#[]⟩ A).kids) v x) (ok : ∀ i, i < 4 + k → (Ts i).Fine ∧ fR (Ts i) = true) (sum : ag (fun i => (Ts i).cost) (4 + k) ≤ 1000 + k * D) : ∃ a c, x = .slice a (4 + k + 1) c ∧ PE sb A D w ob (k + 1) (v.setCell ⟨ob, 3, none⟩ (.slice a (4 + k + 1) c)) := by
 obtain ⟨Us, us, s, e, a, c, h1, h2, ⟨T, hT, rfl⟩, h4, h5⟩ := h
 refine ⟨a, c, h1, _, us, s, e, a, c, hd.put ob 3 _ (by omega), sJ, (heap_setCell_same v ob 3 _ 27 (.slice a (4 + k + 1) c) hb).trans rfl, h2.put h4 h5, h4, h5, fun i hi => ?_, ?_⟩
 ·by_cases oA : i < 4 + k
  ·rw [bh _ _ oA]; exact ok i oA
  ·rw [bN _ _ (by omega)]; exact ⟨hT.1, hT.2.1⟩
 ·show ag (fun i => (fW Ts (4 + k) (cm 0 0 ⟨#[]⟩ T).kids i).cost) (4 + k + 1) ≤ _
  simp only [ag]
  rw [wM Ts _ (4 + k) lr, bN _ _ lr, Nat.add_mul]
  have : ((cm 0 0 ⟨#[]⟩ T).kids (4 + k - (4 + k))).cost ≤ D := hT.2.2
  omega
theorem PI.join {B D lo hi j ob : Nat} {Ts : Nat → Nd} {us : Nat → Value} {s e : Nat → Nat} {ka : Option Addr} {kc : Nat} {v : World} {T : Nd} {ua : Option Addr} {uc : Nat} (h : Gw B Ts us s e j (.slice ka j kc) v) (fE : (Value.slice ka j kc).ownBlock ≠ some ob) (hap0 : ∀ i, i < j → ob < s i ∨ e i ≤ ob) (ht : Row lo hi v (cm 0 0 ⟨#[]⟩ T) (.slice ua 1 uc)) (hT : I9 D T) (hB : B ≤ lo) (GZ : ob < lo) (Kw : lo ≤ hi) (hh : hi ≤ v.heap.size) (bB : ∀ g, (Value.slice ka j kc).ownBlock = some g → g < lo) (hj : j ≤ 100) :
  ∃ x v', (∀ ty, (Builtin.append_ #[25, 25] ty #[.slice ka j kc, .slice ua 1 uc]).run Tryd.prog v = .ok x v') ∧ v.grownBy v' (Value.slice ka j kc).ownBlock ∧ AV B ob (j + 1) (fun Us => ∃ A, I9 D A ∧ Us = fW Ts j (cm 0 0 ⟨#[]⟩ A).kids) v' x := by
 obtain ⟨a, c, v', vs, h1, h2, h3, h4⟩ := nE (T := cm 0 0 ⟨#[]⟩ T) h ht (by omega) hB Kw hh (fun g hg => .inl (bB g hg)) (by show j + 1 ≤ _; omega)
 refine ⟨_, v', h1, h3, _, _, _, _, a, c, rfl, h2, ⟨T, hT, rfl⟩, ?_, fun i hi => ?_⟩
 ·have h4' : (Value.slice a (j + 1) c).ownBlock = (Value.slice ka j kc).ownBlock ∨ ∃ k, (Value.slice a (j + 1) c).ownBlock = some k ∧ v.heap.size ≤ k := h4
  rcases h4' with e1 | ⟨q, e1, hq⟩
  ·rw [e1]; exact fE
  ·rw [e1]; intro h; have := Option.some.inj h; omega
 ·by_cases oA : i < j
  ·rw [bh _ _ oA, bh _ _ oA]; exact hap0 i oA
  ·rw [bN _ _ (by omega), bN _ _ (by omega)]; left; omega
theorem PI.more {sb A A' D : Nat} {w : World} {ob k : Nat} {W : World} (h : PE sb A D w ob k W) (hA : A ≤ A') : PE sb A' D w ob k W := by
 obtain ⟨Ts, us, s, e, ka, kc, h⟩ := h
 exact ⟨Ts, us, s, e, ka, kc, ⟨h.dw.src.mono hA, h.dw.kp, h.dw.low⟩, h.low, h.obx, h.gw, h.ne, h.ap, h.ok, h.sum⟩
theorem Gw.kd {sb B j : Nat} {Ts : Nat → Nd} {us : Nat → Value} {s e : Nat → Nat} {a : Option Addr} {c : Nat} {w : World} (h : Gw B Ts us s e j (.slice a j c) w) (hj : 0 < j) (hsb : sb < B) : KD sb (s 0) (e 0) (Ts 0) a w ∧ B ≤ s 0 ∧ s 0 ≤ e 0 ∧ e 0 ≤ w.heap.size := by
 obtain ⟨hr, h1, h2, h3⟩ := h.kid 0 hj
 obtain ⟨b, d, Qb⟩ := aQ hr
 rcases h.own.2 with ⟨_, e2⟩ | ⟨g, cap, cur, e1, hB, hb, _⟩
 ·omega
 ·injection e1 with e1 _ e3
  subst e1 e3
  obtain ⟨f0, f1, f2, f3⟩ := pI Ts us hj
  have hc := fun o (u : Value) (hu : (fL Ts us j)[o]? = some u) => (pV g o ▸ h.own.cells (g := g) rfl o u hu : w.cell? ⟨g, o, none⟩ = some u)
  rw [Qb] at f3 hr
  simp only [Nat.zero_mul, Nat.zero_add] at f0 f1 f2 f3
  exact ⟨⟨g, 0, b, d, rfl, ⟨by omega, (Array.getElem?_eq_some_iff.1 hb).1⟩, ⟨hc _ _ f0, hc _ _ f1, hc _ _ f2, hc _ _ f3⟩, hr⟩, h1, h2, h3⟩
theorem J9 {W : World} {b : Nat} {k0 n0 : Int} {s0 : ByteArray} {a0 : Option Addr} {l0 c0 : Nat} (k n : Int) (s : ByteArray) (a : Option Addr) (l c : Nat) (h : W.heap[b]? = some (lV k0 n0 s0 a0 l0 c0)) : (iN W b k n s (.slice a l c)).heap[b]? = some (lV k n s a l c) := by
 unfold iN
 have h1 := (heap_setCell_same W b 0 _ 27 (.int .i64 k) h)
 have h2 := (heap_setCell_same _ b 1 _ 27 (.int .i64 n) h1)
 have h3 := (heap_setCell_same _ b 2 _ 27 (.string s) h2)
 exact (heap_setCell_same _ b 3 _ 27 (.slice a l c) h3).trans rfl
def F6 (sb A r0 b : Nat) (T : Nd) (w W : World) (v : World) : Prop := ∃ q : Nat, q < 2 ∧ DW sb A w v ∧ (∀ k, k < W.heap.size → k ≠ sb → k ≠ b → v.heap[k]? = W.heap[k]?) ∧ W.heap.size ≤ v.heap.size ∧ ∃ (us : Nat → Value) (s e : Nat → Nat) (a : Option Addr) (c : Nat), v.heap[b]? = some (lV T.kind T.num T.name a (1 + T.len) c) ∧ Gw r0 (fW (fun _ => sQ q) 1 T.kids) us s e (1 + T.len) (.slice a (1 + T.len) c) v ∧ (b < s 0 ∨ e 0 ≤ b)
def Iz (sb b lo r0 : Nat) (aB : Option Addr) (T : Nd) (cB : Nat) (i : Nat) (w : World) (x : Value) : Prop := match i with
 |0 => x = .pointer (some ⟨sb, 0, none⟩)
 |1 => ∃ q : Nat, q < 2 ∧ x = .int .i64 (q : Int)
 |2 => ∃ q : Nat, q < 2 ∧ x = .agg #[.int .i64 22, .int .i64 (q : Int), .string ⟨#[]⟩, .slice none 0 0]
 |3 => LV lo (fun T => ∃ q : Nat, q < 2 ∧ T = cm 0 0 ⟨#[]⟩ (al 22 q ⟨#[]⟩)) w x
 |4 => TV lo (fun T => ∃ q : Nat, q < 2 ∧ T = L7 q) w x
 |5 => LV lo (fun T => ∃ q : Nat, q < 2 ∧ T = cm 0 0 ⟨#[]⟩ (L7 q)) w x
 |6 => TV lo (fun T => ∃ q : Nat, q < 2 ∧ T = sQ q) w x
 |7 => GV lo (fun T => ∃ q : Nat, q < 2 ∧ T = sQ q) w x
 |8 => x = .pointer (some ⟨b, 3, none⟩)
 |9 => x = .slice aB T.len cB
 |10 => AV r0 b (1 + T.len) (fun Ts => ∃ q : Nat, q < 2 ∧ Ts = fW (fun _ => sQ q) 1 T.kids) w x
 |11 => x = .pointer (some ⟨b, 3, none⟩)
 |_ => True
theorem pW {sb b lo r0 : Nat} {aB : Option Addr} {T : Nd} {cB : Nat} {l : Array Bool} {v v' : World} (h0 : Wn r0 v v') (lh : r0 ≤ lo) (bB : l.getD 12 false = false) (aF : l.getD 12 false = false) : ∀ jj x, l.getD jj false = true → Iz sb b lo r0 aB T cB jj v x → Iz sb b lo r0 aB T cB jj v' x := by
 have h := h0.mono lh
 intro jj x hl hx
 match jj, hx with
 |0, hx => exact hx
 |1, hx => exact hx
 |2, hx => exact hx
 |3, hx => exact LV.stable h hx
 |4, hx => exact TV.stable h hx
 |5, hx => exact LV.stable h hx
 |6, hx => exact TV.stable h hx
 |7, hx => exact GV.stable h hx
 |8, hx => exact hx
 |9, hx => exact hx
 |10, hx => exact AV.stable h0 hx
 |11, hx => exact hx
 |12, _ => rw [aF] at hl; cases hl
 |(k + 13), _ => exact trivial
theorem Pk {sb b lo r0 : Nat} {aB : Option Addr} {T : Nd} {cB : Nat} {o : Nat} {y : Value} {v : World} (hb : b < lo) : ∀ jj x, Iz sb b lo r0 aB T cB jj v x → Iz sb b lo r0 aB T cB jj (v.setCell ⟨b, o, none⟩ y) x := by
 intro jj x hx
 match jj, hx with
 |0, hx => exact hx
 |1, hx => exact hx
 |2, hx => exact hx
 |3, hx => exact LV.stable (Wn.of_set hb) hx
 |4, hx => exact TV.stable (Wn.of_set hb) hx
 |5, hx => exact LV.stable (Wn.of_set hb) hx
 |6, hx => exact TV.stable (Wn.of_set hb) hx
 |7, hx => exact GV.stable (Wn.of_set hb) hx
 |8, hx => exact hx
 |9, hx => exact hx
 |10, hx => exact AV.put hx
 |11, hx => exact hx
 |12, hx => exact hx
 |(k + 13), _ => exact trivial
def E8 (i : Nat) : Nat := [19, 20, 21, 22, 23, 24, 25, 26, 27, 28, 29, 30, 1012].getD i 2000
theorem LO (i j : Nat) (hi : i < 13) (hj : j < 13) (h : E8 i = E8 j) : i = j := by
 have : ((List.range 13).all fun i => (List.range 13).all fun j => E8 i != E8 j || i == j) = true := by decide
 exact bN1
def Iy (ob lo B D j k : Nat) (Ts : Nat → Nd) (ka la : Option Addr) (kc lc : Nat) (L : Nd) (i : Nat) (w : World) (x : Value) : Prop := match i with
 |0 => x = .pointer (some ⟨ob, 3, none⟩)
 |1 => x = .slice ka j kc
 |2 => x = .int .i64 (k : Int)
 |3 => x = .string (cr (gQ 20 k))
 |4 => x = .string (wK k)
 |5 => x = L.val (.slice la L.len lc)
 |6 => LV lo (fun T => T = cm 0 0 ⟨#[]⟩ L) w x
 |7 => TV lo (I9 D) w x
 |8 => LV lo (fun T => ∃ A, I9 D A ∧ T = cm 0 0 ⟨#[]⟩ A) w x
 |9 => AV B ob (j + 1) (fun Us => ∃ A, I9 D A ∧ Us = fW Ts j (cm 0 0 ⟨#[]⟩ A).kids) w x
 |10 => x = .pointer (some ⟨ob, 3, none⟩)
 |_ => True
theorem vE {ob lo B D j k : Nat} {Ts : Nat → Nd} {ka la : Option Addr} {kc lc : Nat} {L : Nd} {l : Array Bool} {v v' : World} (h : Wn lo v v') (bB : l.getD 9 false = false) (aF : l.getD 11 false = false) : ∀ jj x, l.getD jj false = true → Iy ob lo B D j k Ts ka la kc lc L jj v x → Iy ob lo B D j k Ts ka la kc lc L jj v' x := by
 intro jj x hl hx
 match jj, hx with
 |0, hx => exact hx
 |1, hx => exact hx
 |2, hx => exact hx
 |3, hx => exact hx
 |4, hx => exact hx
 |5, hx => exact hx
 |6, hx => exact LV.stable h hx
 |7, hx => exact TV.stable h hx
 |8, hx => exact LV.stable h hx
 |9, _ => rw [bB] at hl; cases hl
 |10, hx => exact hx
 |11, _ => rw [aF] at hl; cases hl
 |(k + 12), _ => exact trivial
theorem Pj {ob lo B D j k : Nat} {Ts : Nat → Nd} {ka la : Option Addr} {kc lc : Nat} {L : Nd} {o : Nat} {y : Value} {v : World} (hb : ob < lo) : ∀ jj x, Iy ob lo B D j k Ts ka la kc lc L jj v x → Iy ob lo B D j k Ts ka la kc lc L jj (v.setCell ⟨ob, o, none⟩ y) x := by
 intro jj x hx
 match jj, hx with
 |0, hx => exact hx
 |1, hx => exact hx
 |2, hx => exact hx
 |3, hx => exact hx
 |4, hx => exact hx
 |5, hx => exact hx
 |6, hx => exact LV.stable (Wn.of_set hb) hx
 |7, hx => exact TV.stable (Wn.of_set hb) hx
 |8, hx => exact LV.stable (Wn.of_set hb) hx
 |9, hx => exact AV.put hx
 |10, hx => exact hx
 |11, hx => exact hx
 |(k + 12), _ => exact trivial
def C9 (i : Nat) : Nat := [34, 35, 36, 37, 38, 39, 40, 41, 42, 43, 44, 1011].getD i 2000
theorem LN (i j : Nat) (hi : i < 12) (hj : j < 12) (h : C9 i = C9 j) : i = j := by
 have : ((List.range 12).all fun i => (List.range 12).all fun j => C9 i != C9 j || i == j) = true := by decide
 exact bN1
end
theorem Iv (C K M : Nat) (hC : C ≤ 100000000) (hK : K ≤ 100000000) (hM : M ≤ 100) (BD : LW 2 C K M) (sb A lo hi : Nat) (T : Nd) (a : Option Addr) (cap : Nat) (w : World) (hA : A + (7 * K + 10) ≤ 1099511627776) (Sm : 1 ≤ T.len) (hl7 : T.len ≤ 7) (h : Src sb A w) (lh : sb < lo) (Kw : lo ≤ hi) (gW : hi ≤ w.heap.size) (hr : KD sb lo hi (T.kids 0) a w) (zL : (T.kids 0).Fine ∧ (T.kids 0).sOk = true ∧ (T.kids 0).cost ≤ 100) :
  Calls Tryd.prog 32 #[.pointer (some ⟨sb, 0, none⟩), T.val (.slice a T.len cap)] w fun e w' => ∃ (j : Nat) (Ts : Nat → Nd) (us : Nat → Value) (s t : Nat → Nat) (ka : Option Addr) (kc : Nat), e = .returned (.agg #[.int .i64 4, .int .i64 0, .string ⟨#[]⟩, .slice ka j kc]) ∧ Gw lo Ts us s t j (.slice ka j kc) w' ∧ (∀ g, (Value.slice ka j kc).ownBlock = some g → w.heap.size < g) ∧ (∀ i, i < j → (s i = lo ∧ t i = hi) ∨ w.heap.size < s i) ∧ mo (7 * C + 200) (.mk 4 0 ⟨#[]⟩ j Ts) ∧ Src sb (A + (7 * K + 10)) w' ∧ Kp sb w w' := by
 obtain ⟨W1, Hm⟩ : ∃ W, w.alloc (.cells #[.int .i64 T.kind, .int .i64 T.num, .string T.name, .slice a T.len cap] 27) = W := ⟨_, rfl⟩
 have ED := aa Hm
 have hZ : W1.heap.size = w.heap.size + 1 := by rw [← Hm]; simp
 have HZ1 := aa hZ
 have hb1 : Below w.heap.size w W1 := by rw [← Hm]; exact bA
 have I7 := aa hb1
 have SW : W1.heap[w.heap.size]? = some (lV T.kind T.num T.name a T.len cap) := by rw [← Hm]; exact heap_alloc_new w _
 have HD := DW.start (h.calm hb1)
 have mi := hr.calm lh gW hb1
 have yg : w.heap.size + 1 ≤ W1.heap.size := by omega
 have hsw : sb < w.heap.size := h.lt
 have hneb : w.heap.size ≠ sb := by omega
 obtain ⟨W2, S9⟩ : ∃ W, W1.alloc gZ = W := ⟨_, rfl⟩
 have hQ : W2.heap.size = W1.heap.size + 1 := by rw [← S9]; simp
 have HZ2 := aa hQ
 have hb2 : Below W1.heap.size W1 W2 := by rw [← S9]; exact bA
 have HW2 := aa S9
 rw [S9] at HD
 obtain ⟨W3, yk⟩ : ∃ W, W2.alloc (.cells #[.string ⟨#[109]⟩, .int .i64 3, .int .i64 0] 83) = W := ⟨_, rfl⟩
 have HW3 := aa yk
 have hb3 : Below W2.heap.size W2 W3 := by rw [← yk]; exact bA
 have N5 : W2.heap.size + 1 ≤ W3.heap.size := by rw [← yk]; simp
 have lI := aa (HD.calm hb3)
 have PS := aa (aZ (aZ SW hb2) hb3)
 have HR3 := aa ((mi.calm lh (by omega) hb2).calm lh (by omega) hb3)
 have hv := fun j u (hj : ([.string ⟨#[109]⟩, .int .i64 3, .int .i64 0] : List Value)[j]? = some u) => p6 W2 (.string ⟨#[109]⟩) (.int .i64 3) (.int .i64 0) 83 j u hj
 rw [yk, hQ] at hv
 have SCP : Hid (Scp sb W3 (.slice (some ⟨W1.heap.size + 1, 0, none⟩) 1 1) 1) := by
  refine ⟨_, 1, rfl, by omega, by omega, .inr ⟨W1.heap.size + 1, 0, rfl, by omega, by omega, fun i hi => ?_⟩⟩
  obtain rfl : i = 0 := by omega
  have v0 := hv 0 _ rfl
  have v1 := hv 1 _ rfl
  have v2 := hv 2 _ rfl
  simp only [Addr.add, Nat.zero_add, Nat.zero_mul] at v0 v1 v2 ⊢
  exact ⟨⟨#[109]⟩, 3, 0, by decide, v0, v1, v2⟩
 have hmk : T.len * K ≤ 7 * K := Nat.mul_le_mul_right _ hl7
 have hmc : T.len * C ≤ 7 * C := Nat.mul_le_mul_right _ hl7
 have hTn : T.len ≤ 9223372036854775807 := by omega
 have Fa := aa BD
 obtain ⟨i0, qn, Rl, Rk, Rj⟩ := info_parts zv
 clear Hm S9 yk hZ hQ hb1 hb2 hb3 h hr mi SW HD hv BD
 unfold Nd.val
 unfold gZ at *
 go_enter Tryd.func32, Tryd.ntmps32
 go_upto_region 1 with fail
 rw [show (w.alloc (Obj.cells #[.int .i64 T.kind, .int .i64 T.num, .string T.name, .slice a T.len cap] 27)) = W1 from ED.out, ← HZ1.out]
 clear ED
 go_upto_region 2 with fail
 rw [HW2.out, HW3.out]
 clear HW2 HW3
 obtain ⟨x0, x1, x2, x3, xf⟩ := aw PS.out
 go_wp2_with fail
 refine (Fa.out sb A 1 T.len (.slice (some ⟨W1.heap.size + 1, 0, none⟩) 1 1) false W3 (by omega) (by omega) lI.out.src SCP.out).mono ?_
 rintro e w4 ⟨TB, uB, rfl, dB⟩
 obtain ⟨aB, cB, rfl⟩ := aQ dB.row
 have hz4 := dB.kp.size
 have HZ2L := HZ2.out
 have CE := bO w4 (lV TB.kind TB.num TB.name aB TB.len cB)
 have gG := aa ((lI.out.step dB.src dB.kp).calm CE)
 have VQ := aa ((HR3.out.kp lh (by omega) dB.kp).calm lh (by omega) CE)
 have RB5 := aa (ae CE lr dB.row)
 have PQ := aa (aZ (bG PS.out hneb dB.kp) CE)
 have PW := aa (heap_alloc_new w4 (lV TB.kind TB.num TB.name aB TB.len cB))
 have PB : Hid (TB.Fine ∧ TB.kind = 4 ∧ TB.sOk = true ∧ TB.cost ≤ 7 * C) := ⟨dB.fine, dB.ok.1, dB.ok.2.1, by have := dB.cost; omega⟩
 have P5 : TB.len = T.len := dB.ok.2.2
 have hlB7 : TB.len ≤ 7 := by omega
 clear dB lI PS SCP x0 x1 x2 x3 xf P5
 obtain ⟨W5, MK⟩ : ∃ W, w4.alloc (lV TB.kind TB.num TB.name aB TB.len cB) = W := ⟨_, rfl⟩
 have VN := aa MK
 have hz5 : w4.heap.size + 1 ≤ W5.heap.size := by rw [← MK]; simp
 rw [MK] at gG VQ RB5 PQ PW
 clear MK CE
 unfold Nd.val
 go_upto_region 3 with fail
 rw [show (w4.alloc (Obj.cells #[.int .i64 TB.kind, .int .i64 TB.num, .string TB.name, .slice aB TB.len cB] 27)) = W5 from VN.out]
 clear VN
 obtain ⟨g, off, b0, d0, rfl, ⟨hgs, hgh⟩, ⟨k0, k1, k2, k3⟩, hu0⟩ := VQ.out
 have HU0 := aa hu0
 have hl1i : (0 : Int) < (T.len : Int) := by omega
 obtain ⟨x0, x1, x2, x3, xf⟩ := aw PQ.out
 have HK0 := aa zL
 obtain ⟨W6, Qe⟩ : ∃ W, W5.alloc (.cells #[] 27) = W := ⟨_, rfl⟩
 have HW6 := aa Qe
 have yJ : Below W5.heap.size W5 W6 := by rw [← Qe]; exact bA
 have Rp : W6.heap.size = W5.heap.size + 1 := by rw [← Qe]; simp
 have zJ : W6.ownsRow lo 27 4 (.slice (some ⟨W5.heap.size, 0, none⟩) 0 0) 0 [] := by rw [← Qe]; exact World.ownsRow_made (base := lo) (e := 27) (size := 4) W5 #[] 0 (by omega) (by unfold maxLen; omega) (by simp)
 have Kt := oY W6 (.int .i64 (T.kids 0).kind) (.int .i64 (T.kids 0).num) (.string (T.kids 0).name) (.slice b0 (T.kids 0).len d0) 27
 rw [Rp] at Kt
 have KE := bO W6 (.cells #[.int .i64 (T.kids 0).kind, .int .i64 (T.kids 0).num, .string (T.kids 0).name, .slice b0 (T.kids 0).len d0] 27)
 have DW7 := aa ((gG.out.calm yJ).calm KE)
 have BB7 := aa (aZ (aZ PW.out yJ) KE)
 have RB7 := aa (ae KE (by omega) (ae yJ (by omega) RB5.out))
 have RU7 := aa (ae KE (by omega) (ae yJ (by omega) HU0.out))
 have OW7 := aa (zJ.alloc (.cells #[.int .i64 (T.kids 0).kind, .int .i64 (T.kids 0).num, .string (T.kids 0).name, .slice b0 (T.kids 0).len d0] 27))
 have Ro : W5.heap.size + 1 ≤ (W6.alloc (.cells #[.int .i64 (T.kids 0).kind, .int .i64 (T.kids 0).num, .string (T.kids 0).name, .slice b0 (T.kids 0).len d0] 27)).heap.size := by simp; omega
 rw [← Qe] at Kt DW7 BB7 RB7 RU7 OW7 Ro
 have VU := aa Kt
 have qx3 := qP x3
 have qk0 := qP k0
 have qk1 := qP k1
 have qk2 := qP k2
 have qk3 := qP k3
 have HZ7 := aa Ro
 clear hu0 zL Kt yJ KE Qe HW6 zJ Ro Rp HU0 VQ PQ
 go_upto_region 4 with (at_builtin; refine bE _ rfl _ _ 25 rfl lo 27 i0 (.agg #[.int .i64 0, .int .i64 0, .string ⟨#[]⟩, .slice none 0 0]) 4 56 Tryd.underlying25 qn Rl Rk Rj rfl (by decide) _ 0 _ rfl OW7.out ⟨W5.heap.size + 1, 0, none⟩ 1 1 [.int .i64 (T.kids 0).kind, .int .i64 (T.kids 0).num, .string (T.kids 0).name, .slice b0 (T.kids 0).len d0] rfl rfl VU.out (oX _ _ _ _ _ _) (by unfold maxLen; omega) (by omega) (by have := HZ7.out; omega) ?_; intro v' w9 bK aD iU zC; obtain ⟨sI, sH, xg⟩ := zC.out; subst xg)
 have AI0 : Hid (AI sb (A + T.len * K + 10) lo hi w4.heap.size W1 TB aB cB W3.heap.size w4.heap.size 0 1 _ _ _ _ sI sH w9) := AI.first (T := T.kids 0) (hi := hi) (u := .slice b0 (T.kids 0).len d0) (g0 := W5.heap.size) DW7.out BB7.out RB7.out ⟨by omega, by omega, Nat.le_refl _, by omega⟩ Kw (by omega) (by omega) RU7.out HK0.out OW7.out bK.out aD.out iU.out
 clear bK aD iU zC DW7 BB7 RB7 RU7 OW7 VU HZ7 gG RB5 PW qx3 qk0 qk1 qk2 qk3 k0 k1 k2 k3 x0 x1 x2 x3 xf
 go_wp2_with fail
 go_loopw [7, 8] (fun kv iv wr => ∃ (i j : Nat) (Ts : Nat → Nd) (us : Nat → Value) (s e : Nat → Nat) (ka : Option Addr) (kc : Nat), i ≤ TB.len ∧ kv = .slice ka j kc ∧ iv = .int .i64 i ∧ AI sb (A + T.len * K + 10) lo hi w4.heap.size W1 TB aB cB W3.heap.size w4.heap.size i j Ts us s e ka kc wr) (fun _ iv _ => TB.len - (intOf iv).toNat)
 case atStart => exact ⟨0, 1, _, _, _, _, _, _, by omega, rfl, rfl, AI0.out⟩
 case round =>
  obtain ⟨i, j, Ts, us, s, e, ka, kc, nx, rfl, rfl, S6⟩ := hrel
  have PY := aa S6
  have ig := S6.few
  have hlt4 := S6.lt
  obtain ⟨y0, y1, y2, y3, yf⟩ := aw S6.bsb
  clear S6 AI0
  by_cases bm : i < TB.len
  ·have hii : (i : Int) < (TB.len : Int) := by omega
   obtain ⟨_, _, hue, _, huq⟩ := ar.1 PY.out.row
   injection hue with q1 _ q3
   subst q1 q3
   rcases huq with IU | ⟨g2, D6, rfl, _, hgh2, vM⟩
   ·omega
   obtain ⟨u, k0, k1, k2, k3, hu⟩ := vM i bm
   obtain ⟨bu, du, rfl⟩ := aQ hu
   have HU := aa hu
   have HKF := aa (And.intro (Nd.fine_kid PB.out.1 bm) (Lg PB.out.2.1 PB.out.2.2.1 bm))
   clear vM hu
   have Su : j ≤ 10 := by omega
   cases hq : ((TB.kids i).name.toList == [109])
   ·have mU : ((TB.kids i).name.toList != [109]) = true := by simp [bne, hq]
    exact bN0
   ·have mU : ((TB.kids i).name.toList != [109]) = false := by simp [bne, hq]
    by_cases h5 : (TB.kids i).kind = 5
    ·have h5b : ((TB.kids i).kind == 5) = true := by rw [h5]; rfl
     have h5c : ((TB.kids i).kind != 5) = false := by rw [h5]; rfl
     go_wp2
     exact ⟨⟨i + 1, j, _, _, _, _, ka, kc, by omega, rfl, by go_num, PY.out.skip⟩, by simp [intOf]; omega⟩
    ·have h5b : ((TB.kids i).kind == 5) = false := bn h5
     have h5c : ((TB.kids i).kind != 5) = true := by simp [bne, h5b]
     exact bN0
  ·obtain rfl : i = TB.len := by omega
   have hii : ¬ (TB.len : Int) < (TB.len : Int) := by omega
   obtain ⟨f0, f1, f2, f3, ff⟩ := PY.out.dw.cells
   go_wp2_with fail
   refine (bM _ _ _ _ _ _ _).mono ?_
   rintro e' wr2 ⟨rfl, hb⟩
   have LI := aa (PY.out.calm hb)
   clear hb PY f0 f1 f2 f3 ff
   obtain ⟨f0, f1, f2, f3, ff⟩ := LI.out.dw.cells
   go_wp2
   refine bodyPost_ret (LI.out.dw.read Tryd.results32 rfl _ _ _ _) rfl ⟨j, Ts, us, s, e, ka, kc, rfl, ?_⟩
   obtain ⟨h1, h2, h5, h6⟩ := LI.out.fin (C := 7 * C) PB.out.2.2.2 hlB7
   obtain ⟨h3, h4⟩ := LI.out.dw.put4 4 0 ⟨#[]⟩ (.slice ka j kc)
   exact ⟨h1, fun g hg => by have := h2 g hg; omega, fun i hi => by have := h5 i hi; omega, h6, h3.mono (by omega), (b7 I7.out _).trans h4 (fun _ _ h => h)⟩
end Go.Proofs.YtkfbbdhidecefaaDoor
