import Derived.Test.YteaocammohcgoaaGreatDoorVDG
set_option linter.unusedVariables false
set_option maxHeartbeats 16000000
set_option maxRecDepth 100000
namespace Go.Proofs.YteaocammohcgoaaGreatDoor
open Go.RowKit
variable {G : Prop}
theorem bb0 (h : G := by
 have TY := PU.out
 have dG := TY.gw.own
 have OWA := aa dG
 clear TY dG
 go_wp2_with (at_builtin; refine bp _ rfl _ _ 23 rfl lo 25 i0 (.agg #[.int .i64 0, .int .i64 0, .string ⟨#[]⟩, .slice none 0 0]) 4 56 Tryz.underlying23 lq R9 R7 R0 rfl (by decide) _ j _ rfl (OWA.out.alloc _) ⟨wr.heap.size, 0, none⟩ 1 1 [.int .i64 (TB.kids i).kind, .int .i64 (TB.kids i).num, .string (TB.kids i).name, .slice bu (TB.kids i).len du] rfl rfl (ku _ _ _ _ _ _) (kt _ _ _ _ _ _) (by unfold maxLen; omega) (by omega) (by simp; omega) ?_; intro v' w9 cY aX eF Gc; obtain ⟨nX, nW, rR⟩ := Gc.out; subst rR)
 exact ⟨⟨i + 1, j + 1, _, _, _, _, nX, nW, by omega, rfl, by go_num, (PU.out.calm (bA)).step (ah (bO wr _) (by omega) HU.out) PD.out.1 PD.out.2 cY.out aX.out eF.out⟩, by simp [intOf]; omega⟩) : G := h
theorem bb1 (h : G := by
 have := List.all_eq_true.1 (List.all_eq_true.1 this i (List.mem_range.2 hi)) j (List.mem_range.2 hj)
 simpa [h] using this) : G := h
section
open Go Go.RowKit
def KH (q : Nat) : Nd := bX 26 0 ⟨#[]⟩ (aq 22 q ⟨#[]⟩)
def oh (q : Nat) : Nd := bX 5 0 ⟨#[109]⟩ (KH q)
def rv (k : Nat) : ByteArray := (⟨#[84, 101, 115, 116]⟩ : ByteArray) ++ eO (eI 20 k)
theorem GJ (k : Nat) (h : k < 2) : aR (rv k) = true ∧ (rv k).size ≤ 40 := by
 rcases (by omega : k = 0 ∨ k = 1) with rfl | rfl <;> exact ⟨by decide, by decide⟩
theorem Jk (q : Nat) (h : q < 2) : (oh q).Fine ∧ (oh q).sOk = true ∧ (oh q).cost ≤ 100 := by
 refine ⟨bB (by omega) (by omega) (by decide) (bB (by omega) (by omega) (by decide) (aJ (by omega) (by omega) (by decide))), ?_, ?_⟩
 ·have h1 : (aq 22 q ⟨#[]⟩).eOk = true := iN (by omega)
  have h2 : (KH q).eOk = true := by
   rw [de]
   show cH 26 0 ⟨#[]⟩ 1 (fun i => (aq 22 q ⟨#[]⟩).eOk) _ _ = true
   simp [cH, aG, ao, h1]
  exact lO (.inl rfl) (by decide) h2
 ·rcases (by omega : q = 0 ∨ q = 1) with rfl | rfl <;> decide
def Gv (D : Nat) (T : Nd) : Prop := T.Fine ∧ dd T = true ∧ T.cost ≤ D
theorem I1 {C k : Nat} {L : Nd} (hk : k < 2) (h : hQ C L) : Gv (C + 50) (bX 2 0 (rv k) L) := by
 obtain ⟨h1, h2⟩ := GJ k hk
 refine ⟨bB (by omega) (by omega) (by omega) h.1, ?_, ?_⟩
 ·unfold dd
  simp [bX, Nd.kind, Nd.num, Nd.name, Nd.len, Nd.kids, aG, h1, h.2.1.2]
  exact decide_eq_true h.2.1.1
 ·rw [b9]
  have := h.2.2
  omega
theorem rz (Ts Us : Nat → Nd) (m : Nat) : ∀ {j : Nat}, j ≤ m → ar (fun i => (cJ Ts m Us i).cost) j = ar (fun i => (Ts i).cost) j
 |0, _ => rfl
 |j + 1, h => by
  simp only [ar]
  rw [rz Ts Us m (show j ≤ m by omega), bw _ _ (show j < m by omega)]
structure PI (sb A D : Nat) (w : World) (ob k : Nat) (Ts : Nat → Nd) (us : Nat → Value) (s e : Nat → Nat) (ka : Option Addr) (kc : Nat) (W : World) : Prop where
 dw : DW sb A w W
 low : w.heap.size < ob
 obx : W.heap[ob]? = some (fS 1 0 ⟨#[]⟩ ka (4 + k) kc)
 gw : Gw (w.heap.size + 1) Ts us s e (4 + k) (.slice ka (4 + k) kc) W
 ne : (Value.slice ka (4 + k) kc).ownBlock ≠ some ob
 ap : ∀ i, i < 4 + k → ob < s i ∨ e i ≤ ob
 ok : ∀ i, i < 4 + k → (Ts i).Fine ∧ dd (Ts i) = true
 sum : ar (fun i => (Ts i).cost) (4 + k) ≤ 1000 + k * D
theorem PI.kp {sb A A' D : Nat} {w : World} {ob k : Nat} {Ts : Nat → Nd} {us : Nat → Value} {s e : Nat → Nat} {ka : Option Addr} {kc : Nat} {W W' : World} (h : PI sb A D w ob k Ts us s e ka kc W) (hs : Src sb A' W') (hk : Kp sb W W') : PI sb A' D w ob k Ts us s e ka kc W' := by
 have hl := h.dw.low
 have h2 := h.low
 exact ⟨h.dw.step hs hk, h.low, cm h.obx (by omega) hk, h.gw.kp (sb := sb) (by omega) hk, h.ne, h.ap, h.ok, h.sum⟩
theorem PI.calm {sb A D : Nat} {w : World} {ob k : Nat} {Ts : Nat → Nd} {us : Nat → Value} {s e : Nat → Nat} {ka : Option Addr} {kc : Nat} {W W' : World} (h : PI sb A D w ob k Ts us s e ka kc W) (hb : Below W.heap.size W W') : PI sb A D w ob k Ts us s e ka kc W' := h.kp (h.dw.src.calm hb) (bG hb _)
def PE (sb A D : Nat) (w : World) (ob k : Nat) (W : World) : Prop := ∃ (Ts : Nat → Nd) (us : Nat → Value) (s e : Nat → Nat) (ka : Option Addr) (kc : Nat), PI sb A D w ob k Ts us s e ka kc W
theorem PI.done {sb A D : Nat} {w : World} {ob k : Nat} {Ts : Nat → Nd} {ka : Option Addr} {kc : Nat} {v : World} {x : Value} (hd : DW sb A w v) (mM : w.heap.size < ob) (hb : v.heap[ob]? = some (fS 1 0 ⟨#[]⟩ ka (4 + k) kc)) (h : AV (w.heap.size + 1) ob (4 + k + 1) (fun Us => ∃ A, Gv D A ∧ Us = cJ Ts (4 + k) (bX 0 0 ⟨#[]⟩ A).kids) v x) (ok : ∀ i, i < 4 + k → (Ts i).Fine ∧ dd (Ts i) = true) (sum : ar (fun i => (Ts i).cost) (4 + k) ≤ 1000 + k * D) : ∃ a c, x = .slice a (4 + k + 1) c ∧ PE sb A D w ob (k + 1) (v.setCell ⟨ob, 3, none⟩ (.slice a (4 + k + 1) c)) := by
 obtain ⟨Us, us, s, e, a, c, h1, h2, ⟨T, hT, rfl⟩, h4, h5⟩ := h
 refine ⟨a, c, h1, _, us, s, e, a, c, hd.put ob 3 _ (by omega), mM, (heap_setCell_same v ob 3 _ 25 (.slice a (4 + k + 1) c) hb).trans rfl, h2.put h4 h5, h4, h5, fun i hi => ?_, ?_⟩
 ·by_cases iY : i < 4 + k
  ·rw [bw _ _ iY]; exact ok i iY
  ·rw [bW _ _ (by omega)]; exact ⟨hT.1, hT.2.1⟩
 ·show ar (fun i => (cJ Ts (4 + k) (bX 0 0 ⟨#[]⟩ T).kids i).cost) (4 + k + 1) ≤ _
  simp only [ar]
  rw [rz Ts _ (4 + k) lr, bW _ _ lr, Nat.add_mul]
  have : ((bX 0 0 ⟨#[]⟩ T).kids (4 + k - (4 + k))).cost ≤ D := hT.2.2
  omega
theorem PI.join {B D lo hi j ob : Nat} {Ts : Nat → Nd} {us : Nat → Value} {s e : Nat → Nat} {ka : Option Addr} {kc : Nat} {v : World} {T : Nd} {ua : Option Addr} {uc : Nat} (h : Gw B Ts us s e j (.slice ka j kc) v) (dE : (Value.slice ka j kc).ownBlock ≠ some ob) (hap0 : ∀ i, i < j → ob < s i ∨ e i ≤ ob) (ht : Row lo hi v (bX 0 0 ⟨#[]⟩ T) (.slice ua 1 uc)) (hT : Gv D T) (hB : B ≤ lo) (Ez : ob < lo) (Bl : lo ≤ hi) (hh : hi ≤ v.heap.size) (bD : ∀ g, (Value.slice ka j kc).ownBlock = some g → g < lo) (hj : j ≤ 100) :
  ∃ x v', (∀ ty, (Builtin.append_ #[23, 23] ty #[.slice ka j kc, .slice ua 1 uc]).run Tryz.prog v = .ok x v') ∧ v.grownBy v' (Value.slice ka j kc).ownBlock ∧ AV B ob (j + 1) (fun Us => ∃ A, Gv D A ∧ Us = cJ Ts j (bX 0 0 ⟨#[]⟩ A).kids) v' x := by
 obtain ⟨a, c, v', vs, h1, h2, h3, h4⟩ := gH (T := bX 0 0 ⟨#[]⟩ T) h ht (by omega) hB Bl hh (fun g hg => .inl (bD g hg)) (by show j + 1 ≤ _; omega)
 refine ⟨_, v', h1, h3, _, _, _, _, a, c, rfl, h2, ⟨T, hT, rfl⟩, ?_, fun i hi => ?_⟩
 ·have h4' : (Value.slice a (j + 1) c).ownBlock = (Value.slice ka j kc).ownBlock ∨ ∃ k, (Value.slice a (j + 1) c).ownBlock = some k ∧ v.heap.size ≤ k := h4
  rcases h4' with e1 | ⟨q, e1, hq⟩
  ·rw [e1]; exact dE
  ·rw [e1]; intro h; have := Option.some.inj h; omega
 ·by_cases iY : i < j
  ·rw [bw _ _ iY, bw _ _ iY]; exact hap0 i iY
  ·rw [bW _ _ (by omega), bW _ _ (by omega)]; left; omega
theorem PI.more {sb A A' D : Nat} {w : World} {ob k : Nat} {W : World} (h : PE sb A D w ob k W) (hA : A ≤ A') : PE sb A' D w ob k W := by
 obtain ⟨Ts, us, s, e, ka, kc, h⟩ := h
 exact ⟨Ts, us, s, e, ka, kc, ⟨h.dw.src.mono hA, h.dw.kp, h.dw.low⟩, h.low, h.obx, h.gw, h.ne, h.ap, h.ok, h.sum⟩
theorem Gw.kd {sb B j : Nat} {Ts : Nat → Nd} {us : Nat → Value} {s e : Nat → Nat} {a : Option Addr} {c : Nat} {w : World} (h : Gw B Ts us s e j (.slice a j c) w) (hj : 0 < j) (P7 : sb < B) : KD sb (s 0) (e 0) (Ts 0) a w ∧ B ≤ s 0 ∧ s 0 ≤ e 0 ∧ e 0 ≤ w.heap.size := by
 obtain ⟨hr, h1, h2, h3⟩ := h.kid 0 hj
 obtain ⟨b, d, Gf⟩ := be hr
 rcases h.own.2 with ⟨_, e2⟩ | ⟨g, cap, cur, e1, hB, hb, _⟩
 ·omega
 ·injection e1 with e1 _ e3
  subst e1 e3
  obtain ⟨f0, f1, f2, f3⟩ := jW Ts us hj
  have hc := fun o (u : Value) (hu : (cR Ts us j)[o]? = some u) => (iD g o ▸ h.own.cells (g := g) rfl o u hu : w.cell? ⟨g, o, none⟩ = some u)
  rw [Gf] at f3 hr
  simp only [Nat.zero_mul, Nat.zero_add] at f0 f1 f2 f3
  exact ⟨⟨g, 0, b, d, rfl, ⟨by omega, (Array.getElem?_eq_some_iff.1 hb).1⟩, ⟨hc _ _ f0, hc _ _ f1, hc _ _ f2, hc _ _ f3⟩, hr⟩, h1, h2, h3⟩
theorem H4 {W : World} {b : Nat} {k0 n0 : Int} {s0 : ByteArray} {a0 : Option Addr} {l0 c0 : Nat} (k n : Int) (s : ByteArray) (a : Option Addr) (l c : Nat) (h : W.heap[b]? = some (fS k0 n0 s0 a0 l0 c0)) : (fe W b k n s (.slice a l c)).heap[b]? = some (fS k n s a l c) := by
 unfold fe
 have h1 := (heap_setCell_same W b 0 _ 25 (.int .i64 k) h)
 have h2 := (heap_setCell_same _ b 1 _ 25 (.int .i64 n) h1)
 have h3 := (heap_setCell_same _ b 2 _ 25 (.string s) h2)
 exact (heap_setCell_same _ b 3 _ 25 (.slice a l c) h3).trans rfl
def F6 (sb A r0 b : Nat) (T : Nd) (w W : World) (v : World) : Prop := ∃ q : Nat, q < 2 ∧ DW sb A w v ∧ (∀ k, k < W.heap.size → k ≠ sb → k ≠ b → v.heap[k]? = W.heap[k]?) ∧ W.heap.size ≤ v.heap.size ∧ ∃ (us : Nat → Value) (s e : Nat → Nat) (a : Option Addr) (c : Nat), v.heap[b]? = some (fS T.kind T.num T.name a (1 + T.len) c) ∧ Gw r0 (cJ (fun _ => oh q) 1 T.kids) us s e (1 + T.len) (.slice a (1 + T.len) c) v ∧ (b < s 0 ∨ e 0 ≤ b)
def FG (sb b lo r0 : Nat) (aB : Option Addr) (T : Nd) (cB : Nat) (i : Nat) (w : World) (x : Value) : Prop := match i with
 |0 => x = .pointer (some ⟨sb, 0, none⟩)
 |1 => ∃ q : Nat, q < 2 ∧ x = .int .i64 (q : Int)
 |2 => ∃ q : Nat, q < 2 ∧ x = .agg #[.int .i64 22, .int .i64 (q : Int), .string ⟨#[]⟩, .slice none 0 0]
 |3 => LV lo (fun T => ∃ q : Nat, q < 2 ∧ T = bX 0 0 ⟨#[]⟩ (aq 22 q ⟨#[]⟩)) w x
 |4 => TV lo (fun T => ∃ q : Nat, q < 2 ∧ T = KH q) w x
 |5 => LV lo (fun T => ∃ q : Nat, q < 2 ∧ T = bX 0 0 ⟨#[]⟩ (KH q)) w x
 |6 => TV lo (fun T => ∃ q : Nat, q < 2 ∧ T = oh q) w x
 |7 => GV lo (fun T => ∃ q : Nat, q < 2 ∧ T = oh q) w x
 |8 => x = .pointer (some ⟨b, 3, none⟩)
 |9 => x = .slice aB T.len cB
 |10 => AV r0 b (1 + T.len) (fun Ts => ∃ q : Nat, q < 2 ∧ Ts = cJ (fun _ => oh q) 1 T.kids) w x
 |11 => x = .pointer (some ⟨b, 3, none⟩)
 |_ => True
theorem lE {sb b lo r0 : Nat} {aB : Option Addr} {T : Nd} {cB : Nat} {l : Array Bool} {v v' : World} (h0 : Wn r0 v v') (fy : r0 ≤ lo) (bD : l.getD 12 false = false) (aM : l.getD 12 false = false) : ∀ jj x, l.getD jj false = true → FG sb b lo r0 aB T cB jj v x → FG sb b lo r0 aB T cB jj v' x := by
 have h := h0.mono fy
 intro jj x hl hx
 match jj, hx with
 |0, hx => exact hx
 |1, hx => exact hx
 |2, hx => exact hx
 |3, hx => exact LV.stable h hx
 |4, hx => exact TV.stable h hx
 |5, hx => exact LV.stable h hx
 |6, hx => exact TV.stable h hx
 |7, hx => exact GV.stable h hx
 |8, hx => exact hx
 |9, hx => exact hx
 |10, hx => exact AV.stable h0 hx
 |11, hx => exact hx
 |12, _ => rw [aM] at hl; cases hl
 |(k + 13), _ => exact trivial
theorem Pe {sb b lo r0 : Nat} {aB : Option Addr} {T : Nd} {cB : Nat} {o : Nat} {y : Value} {v : World} (hb : b < lo) : ∀ jj x, FG sb b lo r0 aB T cB jj v x → FG sb b lo r0 aB T cB jj (v.setCell ⟨b, o, none⟩ y) x := by
 intro jj x hx
 match jj, hx with
 |0, hx => exact hx
 |1, hx => exact hx
 |2, hx => exact hx
 |3, hx => exact LV.stable (Wn.of_set hb) hx
 |4, hx => exact TV.stable (Wn.of_set hb) hx
 |5, hx => exact LV.stable (Wn.of_set hb) hx
 |6, hx => exact TV.stable (Wn.of_set hb) hx
 |7, hx => exact GV.stable (Wn.of_set hb) hx
 |8, hx => exact hx
 |9, hx => exact hx
 |10, hx => exact AV.put hx
 |11, hx => exact hx
 |12, hx => exact hx
 |(k + 13), _ => exact trivial
def Cy (i : Nat) : Nat := [19, 20, 21, 22, 23, 24, 25, 26, 27, 28, 29, 30, 1012].getD i 2000
theorem Ko (i j : Nat) (hi : i < 13) (hj : j < 13) (h : Cy i = Cy j) : i = j := by
 have : ((List.range 13).all fun i => (List.range 13).all fun j => Cy i != Cy j || i == j) = true := by decide
 exact bb1
def FF (ob lo B D j k : Nat) (Ts : Nat → Nd) (ka la : Option Addr) (kc lc : Nat) (L : Nd) (i : Nat) (w : World) (x : Value) : Prop := match i with
 |0 => x = .pointer (some ⟨ob, 3, none⟩)
 |1 => x = .slice ka j kc
 |2 => x = .int .i64 (k : Int)
 |3 => x = .string (eO (eI 20 k))
 |4 => x = .string (rv k)
 |5 => x = L.val (.slice la L.len lc)
 |6 => LV lo (fun T => T = bX 0 0 ⟨#[]⟩ L) w x
 |7 => TV lo (Gv D) w x
 |8 => LV lo (fun T => ∃ A, Gv D A ∧ T = bX 0 0 ⟨#[]⟩ A) w x
 |9 => AV B ob (j + 1) (fun Us => ∃ A, Gv D A ∧ Us = cJ Ts j (bX 0 0 ⟨#[]⟩ A).kids) w x
 |10 => x = .pointer (some ⟨ob, 3, none⟩)
 |_ => True
theorem qB {ob lo B D j k : Nat} {Ts : Nat → Nd} {ka la : Option Addr} {kc lc : Nat} {L : Nd} {l : Array Bool} {v v' : World} (h : Wn lo v v') (bD : l.getD 9 false = false) (aM : l.getD 11 false = false) : ∀ jj x, l.getD jj false = true → FF ob lo B D j k Ts ka la kc lc L jj v x → FF ob lo B D j k Ts ka la kc lc L jj v' x := by
 intro jj x hl hx
 match jj, hx with
 |0, hx => exact hx
 |1, hx => exact hx
 |2, hx => exact hx
 |3, hx => exact hx
 |4, hx => exact hx
 |5, hx => exact hx
 |6, hx => exact LV.stable h hx
 |7, hx => exact TV.stable h hx
 |8, hx => exact LV.stable h hx
 |9, _ => rw [bD] at hl; cases hl
 |10, hx => exact hx
 |11, _ => rw [aM] at hl; cases hl
 |(k + 12), _ => exact trivial
theorem Pd {ob lo B D j k : Nat} {Ts : Nat → Nd} {ka la : Option Addr} {kc lc : Nat} {L : Nd} {o : Nat} {y : Value} {v : World} (hb : ob < lo) : ∀ jj x, FF ob lo B D j k Ts ka la kc lc L jj v x → FF ob lo B D j k Ts ka la kc lc L jj (v.setCell ⟨ob, o, none⟩ y) x := by
 intro jj x hx
 match jj, hx with
 |0, hx => exact hx
 |1, hx => exact hx
 |2, hx => exact hx
 |3, hx => exact hx
 |4, hx => exact hx
 |5, hx => exact hx
 |6, hx => exact LV.stable (Wn.of_set hb) hx
 |7, hx => exact TV.stable (Wn.of_set hb) hx
 |8, hx => exact LV.stable (Wn.of_set hb) hx
 |9, hx => exact AV.put hx
 |10, hx => exact hx
 |11, hx => exact hx
 |(k + 12), _ => exact trivial
def zP (i : Nat) : Nat := [34, 35, 36, 37, 38, 39, 40, 41, 42, 43, 44, 1011].getD i 2000
theorem Kn (i j : Nat) (hi : i < 12) (hj : j < 12) (h : zP i = zP j) : i = j := by
 have : ((List.range 12).all fun i => (List.range 12).all fun j => zP i != zP j || i == j) = true := by decide
 exact bb1
end
theorem FD (C K M : Nat) (hC : C ≤ 100000000) (hK : K ≤ 100000000) (hM : M ≤ 100) (BD : Kv 2 C K M) (sb A lo hi : Nat) (T : Nd) (a : Option Addr) (cap : Nat) (w : World) (hA : A + (7 * K + 10) ≤ 1099511627776) (wb : 1 ≤ T.len) (Td : T.len ≤ 7) (h : Src sb A w) (fy : sb < lo) (Bl : lo ≤ hi) (dF : hi ≤ w.heap.size) (hr : KD sb lo hi (T.kids 0) a w) (Ch : (T.kids 0).Fine ∧ (T.kids 0).sOk = true ∧ (T.kids 0).cost ≤ 100) :
  Calls Tryz.prog 38 #[.pointer (some ⟨sb, 0, none⟩), T.val (.slice a T.len cap)] w fun e w' => ∃ (j : Nat) (Ts : Nat → Nd) (us : Nat → Value) (s t : Nat → Nat) (ka : Option Addr) (kc : Nat), e = .returned (.agg #[.int .i64 4, .int .i64 0, .string ⟨#[]⟩, .slice ka j kc]) ∧ Gw lo Ts us s t j (.slice ka j kc) w' ∧ (∀ g, (Value.slice ka j kc).ownBlock = some g → w.heap.size < g) ∧ (∀ i, i < j → (s i = lo ∧ t i = hi) ∨ w.heap.size < s i) ∧ hQ (7 * C + 200) (.mk 4 0 ⟨#[]⟩ j Ts) ∧ Src sb (A + (7 * K + 10)) w' ∧ Kp sb w w' := by
 obtain ⟨W1, vg⟩ : ∃ W, w.alloc (.cells #[.int .i64 T.kind, .int .i64 T.num, .string T.name, .slice a T.len cap] 25) = W := ⟨_, rfl⟩
 have sB := aa vg
 have eT : W1.heap.size = w.heap.size + 1 := by rw [← vg]; simp
 have vN := aa eT
 have hb1 : Below w.heap.size w W1 := by rw [← vg]; exact bA
 have eB := aa hb1
 have EP : W1.heap[w.heap.size]? = some (fS T.kind T.num T.name a T.len cap) := by rw [← vg]; exact heap_alloc_new w _
 have HD := DW.start (h.calm hb1)
 have fN := hr.calm fy dF hb1
 have vZ : w.heap.size + 1 ≤ W1.heap.size := by omega
 have hsw : sb < w.heap.size := h.lt
 have S3 : w.heap.size ≠ sb := by omega
 obtain ⟨W2, EW⟩ : ∃ W, W1.alloc dL = W := ⟨_, rfl⟩
 have ed : W2.heap.size = W1.heap.size + 1 := by rw [← EW]; simp
 have HZ2 := aa ed
 have ba : Below W1.heap.size W1 W2 := by rw [← EW]; exact bA
 have Qu := aa EW
 rw [EW] at HD
 obtain ⟨W3, qa⟩ : ∃ W, W2.alloc (.cells #[.string ⟨#[109]⟩, .int .i64 3, .int .i64 0] 92) = W := ⟨_, rfl⟩
 have HW3 := aa qa
 have cZ : Below W2.heap.size W2 W3 := by rw [← qa]; exact bA
 have Cd : W2.heap.size + 1 ≤ W3.heap.size := by rw [← qa]; simp
 have gu := aa (HD.calm cZ)
 have PO := aa (bE (bE EP ba) cZ)
 have HR3 := aa ((fN.calm fy (by omega) ba).calm fy (by omega) cZ)
 have hv := fun j u (hj : ([.string ⟨#[109]⟩, .int .i64 3, .int .i64 0] : List Value)[j]? = some u) => lK W2 (.string ⟨#[109]⟩) (.int .i64 3) (.int .i64 0) 92 j u hj
 rw [qa, ed] at hv
 have SCP : Hid (Scp sb W3 (.slice (some ⟨W1.heap.size + 1, 0, none⟩) 1 1) 1) := by
  refine ⟨_, 1, rfl, by omega, by omega, .inr ⟨W1.heap.size + 1, 0, rfl, by omega, by omega, fun i hi => ?_⟩⟩
  obtain rfl : i = 0 := by omega
  have v0 := hv 0 _ rfl
  have v1 := hv 1 _ rfl
  have v2 := hv 2 _ rfl
  simp only [Addr.add, Nat.zero_add, Nat.zero_mul] at v0 v1 v2 ⊢
  exact ⟨⟨#[109]⟩, 3, 0, by decide, v0, v1, v2⟩
 have hmk : T.len * K ≤ 7 * K := Nat.mul_le_mul_right _ Td
 have hmc : T.len * C ≤ 7 * C := Nat.mul_le_mul_right _ Td
 have hTn : T.len ≤ 9223372036854775807 := by omega
 have CC := aa BD
 obtain ⟨i0, lq, R9, R7, R0⟩ := info_parts uO
 clear vg EW qa eT ed hb1 ba cZ h hr fN EP HD hv BD
 unfold Nd.val
 unfold dL at *
 go_enter Tryz.func38, Tryz.ntmps38
 go_upto_region 1 with fail
 rw [show (w.alloc (Obj.cells #[.int .i64 T.kind, .int .i64 T.num, .string T.name, .slice a T.len cap] 25)) = W1 from sB.out, ← vN.out]
 clear sB
 go_upto_region 2 with fail
 rw [Qu.out, HW3.out]
 clear Qu HW3
 obtain ⟨x0, x1, x2, x3, xf⟩ := ax PO.out
 go_wp2_with fail
 refine (CC.out sb A 1 T.len (.slice (some ⟨W1.heap.size + 1, 0, none⟩) 1 1) false W3 (by omega) (by omega) gu.out.src SCP.out).mono ?_
 rintro e w4 ⟨TB, uB, rfl, dB⟩
 obtain ⟨aB, cB, rfl⟩ := be dB.row
 have KL := dB.kp.size
 have HZ2L := HZ2.out
 have qY := bO w4 (fS TB.kind TB.num TB.name aB TB.len cB)
 have eN := aa ((gu.out.step dB.src dB.kp).calm qY)
 have Yc := aa ((HR3.out.kp fy (by omega) dB.kp).calm fy (by omega) qY)
 have RB5 := aa (ah qY lr dB.row)
 have PN := aa (bE (cm PO.out S3 dB.kp) qY)
 have PS := aa (heap_alloc_new w4 (fS TB.kind TB.num TB.name aB TB.len cB))
 have PB : Hid (TB.Fine ∧ TB.kind = 4 ∧ TB.sOk = true ∧ TB.cost ≤ 7 * C) := ⟨dB.fine, dB.ok.1, dB.ok.2.1, by have := dB.cost; omega⟩
 have Qc : TB.len = T.len := dB.ok.2.2
 have hlB7 : TB.len ≤ 7 := by omega
 clear dB gu PO SCP x0 x1 x2 x3 xf Qc
 obtain ⟨W5, Lj⟩ : ∃ W, w4.alloc (fS TB.kind TB.num TB.name aB TB.len cB) = W := ⟨_, rfl⟩
 have X5 := aa Lj
 have PY : w4.heap.size + 1 ≤ W5.heap.size := by rw [← Lj]; simp
 rw [Lj] at eN Yc RB5 PN PS
 clear Lj qY
 unfold Nd.val
 go_upto_region 3 with fail
 rw [show (w4.alloc (Obj.cells #[.int .i64 TB.kind, .int .i64 TB.num, .string TB.name, .slice aB TB.len cB] 25)) = W5 from X5.out]
 clear X5
 obtain ⟨g, off, b0, d0, rfl, ⟨hgs, hgh⟩, ⟨k0, k1, k2, k3⟩, P4⟩ := Yc.out
 have HU0 := aa P4
 have Tf : (0 : Int) < (T.len : Int) := by omega
 obtain ⟨x0, x1, x2, x3, xf⟩ := ax PN.out
 have QB := aa Ch
 obtain ⟨W6, Gh⟩ : ∃ W, W5.alloc (.cells #[] 25) = W := ⟨_, rfl⟩
 have HW6 := aa Gh
 have oU : Below W5.heap.size W5 W6 := by rw [← Gh]; exact bA
 have MY : W6.heap.size = W5.heap.size + 1 := by rw [← Gh]; simp
 have oG : W6.ownsRow lo 25 4 (.slice (some ⟨W5.heap.size, 0, none⟩) 0 0) 0 [] := by rw [← Gh]; exact World.ownsRow_made (base := lo) (e := 25) (size := 4) W5 #[] 0 (by omega) (by unfold maxLen; omega) (by simp)
 have uZ := ku W6 (.int .i64 (T.kids 0).kind) (.int .i64 (T.kids 0).num) (.string (T.kids 0).name) (.slice b0 (T.kids 0).len d0) 25
 rw [MY] at uZ
 have Ck := bO W6 (.cells #[.int .i64 (T.kids 0).kind, .int .i64 (T.kids 0).num, .string (T.kids 0).name, .slice b0 (T.kids 0).len d0] 25)
 have DW7 := aa ((eN.out.calm oU).calm Ck)
 have BB7 := aa (bE (bE PS.out oU) Ck)
 have RB7 := aa (ah Ck (by omega) (ah oU (by omega) RB5.out))
 have RU7 := aa (ah Ck (by omega) (ah oU (by omega) HU0.out))
 have OW7 := aa (oG.alloc (.cells #[.int .i64 (T.kids 0).kind, .int .i64 (T.kids 0).num, .string (T.kids 0).name, .slice b0 (T.kids 0).len d0] 25))
 have MX : W5.heap.size + 1 ≤ (W6.alloc (.cells #[.int .i64 (T.kids 0).kind, .int .i64 (T.kids 0).num, .string (T.kids 0).name, .slice b0 (T.kids 0).len d0] 25)).heap.size := by simp; omega
 rw [← Gh] at uZ DW7 BB7 RB7 RU7 OW7 MX
 have Ye := aa uZ
 have qx3 := ld x3
 have qk0 := ld k0
 have qk1 := ld k1
 have qk2 := ld k2
 have qk3 := ld k3
 have HZ7 := aa MX
 clear P4 Ch uZ oU Ck Gh HW6 oG MX MY HU0 Yc PN
 go_upto_region 4 with (at_builtin; refine bp _ rfl _ _ 23 rfl lo 25 i0 (.agg #[.int .i64 0, .int .i64 0, .string ⟨#[]⟩, .slice none 0 0]) 4 56 Tryz.underlying23 lq R9 R7 R0 rfl (by decide) _ 0 _ rfl OW7.out ⟨W5.heap.size + 1, 0, none⟩ 1 1 [.int .i64 (T.kids 0).kind, .int .i64 (T.kids 0).num, .string (T.kids 0).name, .slice b0 (T.kids 0).len d0] rfl rfl Ye.out (kt _ _ _ _ _ _) (by unfold maxLen; omega) (by omega) (by have := HZ7.out; omega) ?_; intro v' w9 cY aX eF Gc; obtain ⟨nX, nW, rR⟩ := Gc.out; subst rR)
 have AI0 : Hid (AI sb (A + T.len * K + 10) lo hi w4.heap.size W1 TB aB cB W3.heap.size w4.heap.size 0 1 _ _ _ _ nX nW w9) := AI.first (T := T.kids 0) (hi := hi) (u := .slice b0 (T.kids 0).len d0) (g0 := W5.heap.size) DW7.out BB7.out RB7.out ⟨by omega, by omega, Nat.le_refl _, by omega⟩ Bl (by omega) (by omega) RU7.out QB.out OW7.out cY.out aX.out eF.out
 clear cY aX eF Gc DW7 BB7 RB7 RU7 OW7 Ye HZ7 eN RB5 PS qx3 qk0 qk1 qk2 qk3 k0 k1 k2 k3 x0 x1 x2 x3 xf
 go_wp2_with fail
 go_loopw [7, 8] (fun kv iv wr => ∃ (i j : Nat) (Ts : Nat → Nd) (us : Nat → Value) (s e : Nat → Nat) (ka : Option Addr) (kc : Nat), i ≤ TB.len ∧ kv = .slice ka j kc ∧ iv = .int .i64 i ∧ AI sb (A + T.len * K + 10) lo hi w4.heap.size W1 TB aB cB W3.heap.size w4.heap.size i j Ts us s e ka kc wr) (fun _ iv _ => TB.len - (intOf iv).toNat)
 case atStart => exact ⟨0, 1, _, _, _, _, _, _, by omega, rfl, rfl, AI0.out⟩
 case round =>
  obtain ⟨i, j, Ts, us, s, e, ka, kc, fO, rfl, rfl, TZ⟩ := hrel
  have PU := aa TZ
  have dK := TZ.few
  have hlt4 := TZ.lt
  obtain ⟨y0, y1, y2, y3, yf⟩ := ax TZ.bsb
  clear TZ AI0
  by_cases bN : i < TB.len
  ·have hii : (i : Int) < (TB.len : Int) := by omega
   obtain ⟨_, _, hue, _, huq⟩ := aH.1 PU.out.row
   injection hue with q1 _ q3
   subst q1 q3
   rcases huq with KN | ⟨g2, off2, rfl, _, hgh2, qL⟩
   ·omega
   obtain ⟨u, k0, k1, k2, k3, hu⟩ := qL i bN
   obtain ⟨bu, du, rfl⟩ := be hu
   have HU := aa hu
   have PD := aa (And.intro (Nd.fine_kid PB.out.1 bN) (Jp PB.out.2.1 PB.out.2.2.1 bN))
   clear qL hu
   have Tk : j ≤ 10 := by omega
   cases hq : ((TB.kids i).name.toList == [109])
   ·have iL : ((TB.kids i).name.toList != [109]) = true := by simp [bne, hq]
    exact bb0
   ·have iL : ((TB.kids i).name.toList != [109]) = false := by simp [bne, hq]
    by_cases h5 : (TB.kids i).kind = 5
    ·have h5b : ((TB.kids i).kind == 5) = true := by rw [h5]; rfl
     have h5c : ((TB.kids i).kind != 5) = false := by rw [h5]; rfl
     go_wp2
     exact ⟨⟨i + 1, j, _, _, _, _, ka, kc, by omega, rfl, by go_num, PU.out.skip⟩, by simp [intOf]; omega⟩
    ·have h5b : ((TB.kids i).kind == 5) = false := bn h5
     have h5c : ((TB.kids i).kind != 5) = true := by simp [bne, h5b]
     exact bb0
  ·obtain rfl : i = TB.len := by omega
   have hii : ¬ (TB.len : Int) < (TB.len : Int) := by omega
   obtain ⟨f0, f1, f2, f3, ff⟩ := PU.out.dw.cells
   go_wp2_with fail
   refine (bU _ _ _ _ _ _ _).mono ?_
   rintro e' wr2 ⟨rfl, hb⟩
   have Kh := aa (PU.out.calm hb)
   clear hb PU f0 f1 f2 f3 ff
   obtain ⟨f0, f1, f2, f3, ff⟩ := Kh.out.dw.cells
   go_wp2
   refine bodyPost_ret (Kh.out.dw.read Tryz.results38 rfl _ _ _ _) rfl ⟨j, Ts, us, s, e, ka, kc, rfl, ?_⟩
   obtain ⟨h1, h2, h5, h6⟩ := Kh.out.fin (C := 7 * C) PB.out.2.2.2 hlB7
   obtain ⟨h3, h4⟩ := Kh.out.dw.put4 4 0 ⟨#[]⟩ (.slice ka j kc)
   exact ⟨h1, fun g hg => by have := h2 g hg; omega, fun i hi => by have := h5 i hi; omega, h6, h3.mono (by omega), (bG eB.out _).trans h4 (fun _ _ h => h)⟩
end Go.Proofs.YteaocammohcgoaaGreatDoor
