import Derived.Test.YtkfbbdhidecefaaDoorUKdM
set_option linter.unusedVariables false
set_option maxHeartbeats 16000000
set_option maxRecDepth 100000
namespace Go.Proofs.YtkfbbdhidecefaaDoor
open Go.RowKit
variable {G : Prop}
theorem bU0 (h : G := by
 rw [hk, e2, Bool.false_and]
 clear hr hq ih
 exact bU4) : G := h
theorem bU1 (h : G := by
 clear hr hq ih
 exact bU4) : G := h
theorem bU2 (h : G := by
 clear hq hr ih
 go_enter Tryd.func85, Tryd.ntmps85
 go_wp2
 go_ret
 exact ⟨rfl, bA⟩) : G := h
theorem bU3 (h : G := by
 go_ret
 exact ⟨rfl, (pw.out _).trans (hb1.mono (by simp))⟩) : G := h
theorem bU4 (h : G := by
 go_enter Tryd.func74, Tryd.ntmps74
 go_wp2
 go_ret
 exact ⟨rfl, pw.out _⟩) : G := h
theorem bU5 (h : G := by
 intro h0
 obtain ⟨a, cap, e1, e2, e3, e4⟩ := ha
 rcases e4 with e | ⟨g, off, rfl, q1, q2, q3⟩
 ·exact absurd e h0
 refine ⟨g, off, cap, e1, ⟨e2, e3⟩, fun W σ r l o hW i hi => ?_⟩
 first
 |clear k_U5_0
  rw [bP] at q1
  rw [World.cell?_of_block (a := ⟨g, off + i, none⟩) (cL W σ r l o hW g (by omega) q2)]
  exact q3 i hi
 |clear k_U5_1
  rw [World.cell?_of_block (a := ⟨g, off + i, none⟩) (cL W σ r l o hW g q1 q2)]
  exact q3 i hi) : G := h
theorem NA {T : Nd} (pd : ∀ U : Nd, U.size < T.size → qk U) : qk T := by
 have ih : ∀ i, i < T.len → qk (T.kids i) := fun i hi => pd _ (by have := fK T hi; omega)
 intro K w0 ah s cx w v hS hE hN be ax iO lh yE
 rcases Cg ax with h | h | h | h | h | h | h | h | h | h | h | h | h | h | h | h | h
 ·exact st_4 h ih K w0 ah s cx w v hS hE hN be ax iO lh yE
 ·exact st_5 h K w0 ah s cx w v hS hE hN be ax iO lh yE
 ·exact st_6 h K w0 ah s cx w v hS hE hN be ax iO lh yE
 ·exact st_7 h K w0 ah s cx w v hS hE hN be ax iO lh yE
 ·exact st_8 h K w0 ah s cx w v hS hE hN be ax iO lh yE
 ·exact st_9 h K w0 ah s cx w v hS hE hN be ax iO lh yE
 ·exact QW h ih K w0 ah s cx w v hS hE hN be ax iO lh yE
 ·rcases L2 h ax with ⟨hl, hb⟩ | ⟨hl, he, hb⟩
  ·exact NC h hl hb ih K w0 ah s cx w v hS hE hN be ax iO lh yE
  ·exact NB h hl he hb ih K w0 ah s cx w v hS hE hN be ax iO lh yE
 ·exact QV h K w0 ah s cx w v hS hE hN be ax iO lh yE
 ·exact QU h K w0 ah s cx w v hS hE hN be ax iO lh yE
 ·exact QT h K w0 ah s cx w v hS hE hN be ax iO lh yE
 ·exact QS h pd K w0 ah s cx w v hS hE hN be ax iO lh yE
 ·exact QR h K w0 ah s cx w v hS hE hN be ax iO lh yE
 ·exact QQ h K w0 ah s cx w v hS hE hN be ax iO lh yE
 ·exact QP h K w0 ah s cx w v hS hE hN be ax iO lh yE
 ·exact QO h K w0 ah s cx w v hS hE hN be ax iO lh yE
 ·exact QN h K w0 ah s cx w v hS hE hN be ax iO lh yE
theorem FR : ∀ T : Nd, qk T := by
 have h : ∀ n : Nat, ∀ T : Nd, T.size ≤ n → qk T := by
  intro n
  induction n with
  |zero => intro T hT; have := T.size_eq; omega
  |succ n ih => intro T hT; exact NA fun U hU => ih U (by omega)
 exact fun T => h _ T lr
def BrS (T : Nd) : Prop := ∀ (w : World) (v : Value) (hi : Nat), T.Fine → hi ≤ w.heap.size → Row 0 hi w T v →
 Calls Tryd.prog 85 #[T.val v] w fun e w' => e = .returned (.bool (kW T)) ∧ Below w.heap.size w w'
theorem Ex (T : Nd) : kW T = if T.kind = 17 then true else if T.kind = 11 ∨ T.kind = 15 then false else pU (fun i => kW (T.kids i)) T.len := by
 cases T <;> rfl
theorem MV (T : Nd) (ih : ∀ i, i < T.len → BrS (T.kids i)) : BrS T := by
 intro w v hi hf gW hr
 have hn := T.fine_len hf
 rw [Ex]
 obtain ⟨a, cap, rfl, bQ, hq⟩ := ar.1 hr
 have HR := aa hq
 have HF := aa hf
 have VZ := aa ih
 unfold Nd.val
 by_cases wb : T.kind = 17
 ·rw [if_pos wb, wb]
  exact bU2
 rw [if_neg wb]
 have h17' : (T.kind == 17) = false := bn wb
 by_cases rM : T.kind = 11
 ·rw [if_pos (.inl rM)]
  rw [rM] at *
  exact bU2
 by_cases vN : T.kind = 15
 ·rw [if_pos (.inr vN)]
  rw [vN] at *
  exact bU2
 rw [if_neg (by omega)]
 have h11' : (T.kind == 11) = false := bn rM
 have h15' : (T.kind == 15) = false := bn vN
 clear hq hr ih wb rM vN hf
 generalize hk : T.kind = tk at *
 generalize hm : T.num = tn at *
 generalize hs : T.name = ts at *
 clear hk hm hs
 have pw : Hid (Below w.heap.size w (w.alloc (.cells #[.int .i64 tk, .int .i64 tn, .string ts, .slice a T.len cap] 27))) := bA
 go_enter Tryd.func85, Tryd.ntmps85
 go_wp2
 go_loopw [3] (fun i wr => ∃ j : Nat, j ≤ T.len ∧ i = .int .i64 j ∧ pU (fun i => kW (T.kids i)) j = false ∧ Below (w.heap.size + 1) (w.alloc (.cells #[.int .i64 tk, .int .i64 tn, .string ts, .slice a T.len cap] 27)) wr) (fun i _ => T.len - (intOf i).toNat)
 case atStart => exact ⟨0, Nat.zero_le _, rfl, rfl, by have := Below.refl (w.heap.size + 1) (w.alloc (.cells #[.int .i64 tk, .int .i64 tn, .string ts, .slice a T.len cap] 27)); exact this⟩
 case round =>
  obtain ⟨j, hj, rfl, S4, hb⟩ := hrel
  have k3 : wr.cell? ⟨w.heap.size, 3, none⟩ = some (.slice a T.len cap) := by
   rw [hb.cell (p := ⟨w.heap.size, 3, none⟩) (by show w.heap.size < _; omega)]; simp
  have qi : w.heap.size + 1 ≤ wr.heap.size := by have := hb.size; simpa using this
  have HB := aa hb
  have Wk := aa S4
  clear hb S4
  by_cases bm : j < T.len
  ·rcases HR.out with h0 | ⟨g, off, rfl, h1, h2, h3⟩
   ·omega
   obtain ⟨u, e0, e1, e2, e3, hu⟩ := h3 j bm
   have tf : g < w.heap.size := by omega
   have qo := pw.out.trans (HB.out.mono (Nat.le_succ _))
   rw [← qo.cell (p := ⟨g, _, none⟩) tf] at e0 e1 e2 e3
   have HC := aa (VZ.out j bm wr u hi (Nd.fine_kid HF.out bm) (by omega) (ae qo gW hu))
   unfold Nd.val at HC
   have zM : (j : Int) < (T.len : Int) := by omega
   clear h3 hu qo
   cases Qa : kW (T.kids j) with
   |true =>
    rw [Qa] at HC
    have HA : Hid (pU (fun i => kW (T.kids i)) T.len = true) := by
     have aN : ∀ n, j < n → pU (fun i => kW (T.kids i)) n = true := by
      intro n hn
      induction n with
      |zero => omega
      |succ n ih =>
       simp only [pU, Bool.or_eq_true]
       by_cases e : j = n
       ·subst e; exact .inr Qa
       ·exact .inl (ih (by omega))
     exact aN _ bm
    clear Qa
    go_wp2_with (go_at_call 85; refine HC.out.mono ?_; rintro e w1 ⟨rfl, hb1⟩)
    go_ret
    exact ⟨by rw [HA.out]; rfl, pw.out.trans ((HB.out.mono (Nat.le_succ _)).trans (hb1.mono (by omega)))⟩
   |false =>
    rw [Qa] at HC
    have HN : Hid (pU (fun i => kW (T.kids i)) (j + 1) = false) := by
     unfold Hid; simp only [pU, Wk.out, Qa, Bool.or_self]
    clear Qa
    go_wp2_with (go_at_call 85; refine HC.out.mono ?_; rintro e w1 ⟨rfl, hb1⟩)
    exact ⟨⟨j + 1, by omega, by go_num, HN.out, HB.out.trans (hb1.mono qi)⟩, by simp [intOf]; omega⟩
  ·go_wp2
   go_ret
   obtain rfl : j = T.len := by omega
   exact ⟨by rw [Wk.out]; rfl, pw.out.trans (HB.out.mono (Nat.le_succ _))⟩
theorem OM (T : Nd) : BrS T := by
 induction T with
 |nil => exact MV _ fun i hi => absurd hi (Nat.not_lt_zero i)
 |mk k n s len kids ih => exact MV _ fun i _ => ih i
def Ja (T : Nd) : Prop := ∀ (w : World) (v : Value) (hi : Nat), T.Fine → hi ≤ w.heap.size → Row 0 hi w T v →
 Calls Tryd.prog 74 #[T.val v] w fun e w' => e = .returned (.bool (nC T)) ∧ Below w.heap.size w w'
theorem tO (T : Nd) : nC T = if T.kind = 12 ∨ T.kind = 21 then true else if T.kind = 4 then decide (0 < T.len) && nC (T.kids (T.len - 1)) else if T.kind = 10 then decide (T.len = 3) && (nC (T.kids 1) && nC (T.kids 2)) else if T.kind = 11 then decide (T.len = 1) && !kW (T.kids 0) else false := by
 cases T <;> rfl
theorem BH {T : Nd} {w : World} {hi : Nat} {v : Value} (hf : T.Fine) (hr : Row 0 hi w T v) (ih : ∀ i, i < T.len → Ja (T.kids i)) (gW : hi ≤ w.heap.size) (h0 : T.len ≠ 0) : ∃ g off cap, v = .slice (some ⟨g, off, none⟩) T.len cap ∧ g < hi ∧ (T.len ≤ cap ∧ cap ≤ 9223372036854775807) ∧ ∀ i, i < T.len →
    ∃ u, (∀ W, Below w.heap.size w W → W.cell? ⟨g, off + i * 4, none⟩ = some (.int .i64 (T.kids i).kind) ∧ W.cell? ⟨g, off + i * 4 + 1, none⟩ = some (.int .i64 (T.kids i).num) ∧
        W.cell? ⟨g, off + i * 4 + 2, none⟩ = some (.string (T.kids i).name) ∧ W.cell? ⟨g, off + i * 4 + 3, none⟩ = some u) ∧
      ∀ W, Below w.heap.size w W → (Calls Tryd.prog 74 #[.agg #[.int .i64 (T.kids i).kind, .int .i64 (T.kids i).num, .string (T.kids i).name, u]] W fun e w' => e = .returned (.bool (nC (T.kids i))) ∧ Below W.heap.size W w') ∧
        (Calls Tryd.prog 85 #[.agg #[.int .i64 (T.kids i).kind, .int .i64 (T.kids i).num, .string (T.kids i).name, u]] W fun e w' => e = .returned (.bool (kW (T.kids i))) ∧ Below W.heap.size W w') := by
  obtain ⟨g, off, cap, hv, hg, hc, hk⟩ := mJ hr h0
  refine ⟨g, off, cap, hv, hg, hc, fun i nx => ?_⟩
  obtain ⟨u, h1, h2⟩ := hk i nx
  refine ⟨u, fun W hb => h1 W (hb.mono gW), fun W hb => ⟨?_, ?_⟩⟩
  · exact ih i nx W u hi (Nd.fine_kid hf nx) (Nat.le_trans gW hb.size) (ae (hb.mono gW) lr h2)
  · exact OM (T.kids i) W u hi (Nd.fine_kid hf nx) (Nat.le_trans gW hb.size) (ae (hb.mono gW) lr h2)
theorem en_4 {T : Nd} (hk : T.kind = 4) (ih : ∀ i, i < T.len → Ja (T.kids i)) : Ja T := by
 intro w v hi hf gW hr
 have hn := T.fine_len hf
 rw [tO, if_neg (by omega), if_pos hk]
 have pw := aa (fun o => bO w o)
 have fH := rJ
 by_cases h0 : T.len = 0
 ·obtain ⟨a, cap, rfl, bQ, hq⟩ := ar.1 hr
  unfold Nd.val
  rw [hk, h0]
  exact bU1
 ·obtain ⟨g, off, cap, rfl, hg, bQ, bz⟩ := BH hf hr ih gW h0
  obtain ⟨m, hm⟩ : ∃ m, T.len = m + 1 := ⟨T.len - 1, by omega⟩
  obtain ⟨u, hc, MF⟩ := bz m (by omega)
  have HC := aa (hc _ (pw.out (.cells #[.int .i64 4, .int .i64 T.num, .string T.name, .slice (some ⟨g, off, none⟩) T.len cap] 27)))
  have HE := aa (fun W hb => (MF W hb).1)
  unfold Nd.val
  rw [hk]
  have mB : (0 : Int) < (T.len : Int) := by omega
  have e1 : T.len - 1 = m := by omega
  have e2 : decide (0 < T.len) = true := decide_eq_true (by omega)
  have hlm : (T.len : Int) - 1 = m := by omega
  have Sg : m < T.len := by omega
  rw [e1, e2, Bool.true_and]
  clear hr ih hc MF bz hf hk e1 hm
  generalize T.len = L at *
  generalize T.kids m = M at *
  obtain ⟨c0, c1, c2, c3⟩ := HC.out
  have mV : g < w.heap.size := by omega
  generalize nC M = eb at *
  go_enter Tryd.func74, Tryd.ntmps74
  go_wp2_with (go_at_call 74; refine (HE.out _ (pw.out _)).mono ?_; rintro e w1 ⟨rfl, hb1⟩)
  exact bU3
theorem TD {T : Nd} (hk : T.kind = 10) (ih : ∀ i, i < T.len → Ja (T.kids i)) : Ja T := by
 intro w v hi hf gW hr
 have hn := T.fine_len hf
 rw [tO, if_neg (by omega), if_neg (by omega), if_pos hk]
 have pw := aa (fun o => bO w o)
 by_cases h0 : T.len = 3
 ·obtain ⟨g, off, cap, rfl, hg, bQ, bz⟩ := BH hf hr ih gW (by omega)
  obtain ⟨u1, iQ, uY⟩ := bz 1 (by omega)
  obtain ⟨u2, oC, Hk⟩ := bz 2 (by omega)
  have mI := aa iQ
  have xA := aa oC
  have Ar := aa (fun W hb => (uY W hb).1)
  have LD := aa (fun W hb => (Hk W hb).1)
  unfold Nd.val
  rw [hk]
  rw [h0] at *
  have e2 : decide (3 = 3) = true := by decide
  rw [e2, Bool.true_and]
  clear hr ih iQ uY oC Hk bz hf hk e2
  generalize T.kids 1 = M1 at *
  generalize T.kids 2 = M2 at *
  obtain ⟨om, oe, oj, oc⟩ := mI.out _ (pw.out (.cells #[.int .i64 10, .int .i64 T.num, .string T.name, .slice (some ⟨g, off, none⟩) 3 cap] 27))
  simp only [Nat.one_mul] at om oe oj oc
  have mV : g < w.heap.size := by omega
  cases hb1 : nC M1 with
  |false =>
   rw [hb1] at Ar
   clear hb1
   go_enter Tryd.func74, Tryd.ntmps74
   go_wp2_with (go_at_call 74; refine (Ar.out _ (pw.out _)).mono ?_; rintro e w1 ⟨rfl, hb1⟩)
   exact bU3
  |true =>
   rw [hb1] at Ar
   clear hb1
   have P1 : Hid True := trivial
   generalize nC M2 = eb at *
   go_enter Tryd.func74, Tryd.ntmps74
   go_wp2_with (first
    |(clear P1; go_at_call 74; refine (Ar.out _ (pw.out _)).mono ?_; rintro e w1 ⟨rfl, hb1⟩; have kU := (pw.out _).trans (hb1.mono (by simp)); obtain ⟨gM, EZ, EY, EX⟩ := xA.out _ kU; have k3 : w1.cell? ⟨w.heap.size, 3, none⟩ = some (.slice (some ⟨g, off, none⟩) 3 cap) := (hb1.cell (p := ⟨w.heap.size, 3, none⟩) (by simp)).trans (by simp); have Nc := aa kU; clear kU hb1)
    |(go_at_call 74; refine (LD.out _ Nc.out).mono ?_; rintro e w2 ⟨rfl, hb2⟩))
   go_ret
   exact ⟨rfl, Nc.out.trans (hb2.mono Nc.out.size)⟩
 ·obtain ⟨a, cap, rfl, bQ, hq⟩ := ar.1 hr
  unfold Nd.val
  have e2 : decide (T.len = 3) = false := decide_eq_false h0
  have e3 : ((T.len : Int) == 3) = false := bn (by omega)
  exact bU0
theorem TC {T : Nd} (hk : T.kind = 11) (ih : ∀ i, i < T.len → Ja (T.kids i)) : Ja T := by
 intro w v hi hf gW hr
 have hn := T.fine_len hf
 rw [tO, if_neg (by omega), if_neg (by omega), if_neg (by omega), if_pos hk]
 have pw := aa (fun o => bO w o)
 by_cases h0 : T.len = 1
 ·obtain ⟨g, off, cap, rfl, hg, bQ, bz⟩ := BH hf hr ih gW (by omega)
  obtain ⟨u1, iQ, uY⟩ := bz 0 (by omega)
  have mI := aa iQ
  have Ar := aa (fun W hb => (uY W hb).2)
  unfold Nd.val
  rw [hk]
  rw [h0] at *
  have e2 : decide (1 = 1) = true := by decide
  rw [e2, Bool.true_and]
  clear hr ih iQ uY bz hf hk e2
  generalize T.kids 0 = M1 at *
  obtain ⟨om, oe, oj, oc⟩ := mI.out _ (pw.out (.cells #[.int .i64 11, .int .i64 T.num, .string T.name, .slice (some ⟨g, off, none⟩) 1 cap] 27))
  simp only [Nat.zero_mul, Nat.add_zero] at om oe oj oc
  have mV : g < w.heap.size := by omega
  generalize kW M1 = eb at *
  have hnot : ∀ (x : Bool) (w : World), (Op.unary .not (.bool x)).run Tryd.prog w = .ok (.bool (!x)) w := fun _ _ => rfl
  go_enter Tryd.func74, Tryd.ntmps74
  go_wp2_with (go_at_call 85; refine (Ar.out _ (pw.out _)).mono ?_; rintro e w1 ⟨rfl, hb1⟩)
  exact bU3
 ·obtain ⟨a, cap, rfl, bQ, hq⟩ := ar.1 hr
  unfold Nd.val
  have e2 : decide (T.len = 1) = false := decide_eq_false h0
  have e3 : ((T.len : Int) == 1) = false := bn (by omega)
  exact bU0
theorem MT (T : Nd) (ih : ∀ i, i < T.len → Ja (T.kids i)) : Ja T := by
 by_cases h4 : T.kind = 4
 ·exact en_4 h4 ih
 by_cases lA : T.kind = 10
 ·exact TD lA ih
 by_cases rM : T.kind = 11
 ·exact TC rM ih
 intro w v hi hf gW hr
 rw [tO]
 have pw := aa (fun o => bO w o)
 obtain ⟨a, cap, rfl, bQ, hq⟩ := ar.1 hr
 unfold Nd.val
 by_cases tM : T.kind = 12
 ·rw [if_pos (.inl tM), tM]
  exact bU1
 by_cases yL : T.kind = 21
 ·rw [if_pos (.inr yL), yL]
  exact bU1
 rw [if_neg (by omega), if_neg h4, if_neg lA, if_neg rM]
 have q4 : (T.kind == 4) = false := bn h4
 have q10 : (T.kind == 10) = false := bn lA
 have q11 : (T.kind == 11) = false := bn rM
 have q12 : (T.kind == 12) = false := bn tM
 have q21 : (T.kind == 21) = false := bn yL
 clear hr hq ih h4 lA rM tM yL
 generalize T.kind = tk at *
 exact bU4
theorem OG (T : Nd) : Ja T := by
 induction T with
 |nil => exact MT _ fun i hi => absurd hi (Nat.not_lt_zero i)
 |mk k n s len kids ih => exact MT _ fun i _ => ih i
def gP (K : SK) (w : World) (r : Int) : World := ((w.setCell ⟨K.cb, 7, none⟩ (.slice none 0 0)).setCell ⟨K.cb, 8, none⟩ (.int .i64 1)).setCell ⟨K.cb, 9, none⟩ (.int .i64 r)
theorem nT (K : SK) (w : World) (r : Int) (k : Nat) (h : k ≠ K.cb) : (gP K w r).heap[k]? = w.heap[k]? := by
 unfold gP
 rw [Below.heap_setCell _ ⟨K.cb, 9, none⟩ _ k h, Below.heap_setCell _ ⟨K.cb, 8, none⟩ _ k h, Below.heap_setCell _ ⟨K.cb, 7, none⟩ _ k h]
theorem nS (K : SK) (w : World) (r : Int) : (gP K w r).heap.size = w.heap.size := by simp [gP, World.setCell]
theorem yo (K : SK) (w : World) (r : Int) (h : K.lo ≤ K.cb) : Below K.lo w (gP K w r) :=
 ⟨by simp [gP, World.setCell], by simp [gP, World.setCell], by simp [gP, World.setCell], by rw [nS]; exact Nat.le_refl _, fun k hk => nT K w r k (by omega)⟩
theorem SS.fresh {K : SK} {w0 : World} {ah : Option Nat} {E : Sc} {X : List Int} {ret loops outs : Int} {w : World} (h : SS K w0 ah (.ok (E, X)) ret loops outs w) (r : Int) : SS K (gP K w r) none (.ok ([[]], X)) r loops outs (gP K w r) := by
 obtain ⟨vv, code, place, deep, zs, vs, h1, ⟨a1, a2, a3, a4, a5, a6, a7, a8⟩, h3⟩ := h.is
 refine ⟨h.ok, ⟨.slice none 0 0, code, place, 1, zs, [], ?_, ⟨a1, a2, rfl, a4, a5, rfl, Nat.zero_le _, by simp⟩, .inl rfl⟩, Kept.refl _ _⟩
 refine ⟨?_, ?_, h1.len, World.ownsRow_nil _ _ _ _⟩
 ·unfold gP
  rw [heap_setCell_same _ K.cb 9 _ _ _ (heap_setCell_same _ K.cb 8 _ _ _ (heap_setCell_same _ K.cb 7 _ _ _ h1.blk))]
  rfl
 ·rw [nT K w r K.tb (fun e => h.ok.ne e.symm)]; exact h1.typ
theorem D0 {K : SK} {w0 : World} {ah : Option Nat} {E : Sc} {X : List Int} {ret loops outs : Int} {w w1 : World} {T : Nd} {v u : Value} {p : Nat} {t : TypeId} (h : SS K w0 ah (.ok (E, X)) ret loops outs w) (r : Int)
  (hb : Below (w.alloc (.cells #[.int .i64 T.kind, .int .i64 T.num, .string T.name, v] t)).heap.size (w.alloc (.cells #[.int .i64 T.kind, .int .i64 T.num, .string T.name, v] t)) w1)
  (ha : LX w1 (w.alloc (.cells #[.int .i64 T.kind, .int .i64 T.num, .string T.name, v] t)).heap.size u T.len (fun i => (aP T p i : Nat))) :
  SS K (gP K w1 r) none (.ok ([[]], X)) r loops outs (gP K w1 r) ∧ SGo K w (gP K w1 r) none w.heap.size T v u p := by
 have h1 := (h.alloc (.cells #[.int .i64 T.kind, .int .i64 T.num, .string T.name, v] t)).calm hb
 have bm := h.lt
 have sf := h.ok.cl
 have bP : (w.alloc (.cells #[.int .i64 T.kind, .int .i64 T.num, .string T.name, v] t)).heap.size = w.heap.size + 1 := by simp
 have aY := hb.size
 rw [bP] at aY
 have kU : Below K.lo w w1 := (h.box _).trans (hb.mono (by rw [bP]; omega))
 have Bu : Below K.lo w (gP K w1 r) := kU.trans (yo K w1 r sf)
 have cL : ∀ W σ r' l o, SS K (gP K w1 r) none σ r' l o W → ∀ k, w.heap.size ≤ k → k < w1.heap.size → W.heap[k]? = w1.heap[k]? := by
  intro W σ r' l o hW k mP oT
  rw [hW.keep (k := k) (by rw [nS]; exact oT) (by omega) (by omega) (fun e => by cases e)]
  exact nT K w1 r k (by omega)
 refine ⟨h1.fresh r, Bu, ?_, ?_, ?_⟩
 ·intro W σ r l o hW
  have e1 := cL W σ r l o hW w.heap.size lr (by omega)
  have e2 : w1.heap[w.heap.size]? = some (.cells #[.int .i64 T.kind, .int .i64 T.num, .string T.name, v] t) := (hb.block _ (by rw [bP]; omega)).trans (heap_alloc_new w _)
  rw [e2] at e1
  refine ⟨?_, ?_, ?_, ?_⟩ <;> simp [World.cell?, e1]
 ·have k_U5_0 := kk
  exact bU5
 ·intro W σ r l o hW
  exact Bu.trans (hW.below (by rw [nS]; omega) (fun k hk => by cases hk))
theorem NH {K : SK} {w0 : World} {ah : Option Nat} {σ : CR CS} {ret loops outs : Int} {w w1 : World} {T : Nd} {u : Value} {p : Nat} (h : SS K w0 ah σ ret loops outs w) (hb : Below w.heap.size w w1) (ha : LX w1 w.heap.size u T.len (fun i => (aP T p i : Nat))) :
  ∃ own1, SS K w1 own1 σ ret loops outs w1 ∧ (∀ σ' r l o W, SS K w1 own1 σ' r l o W → SS K w0 ah σ' r l o W) ∧
   (T.len ≠ 0 → ∃ g off cap, u = .slice (some ⟨g, off, none⟩) T.len cap ∧ (T.len ≤ cap ∧ cap ≤ 9223372036854775807) ∧ ∀ W σ r l o, SS K w1 own1 σ r l o W → ∀ i, i < T.len → W.cell? ⟨g, off + i, none⟩ = some (.int .i64 (aP T p i : Nat))) ∧
   ∀ W σ r l o, SS K w1 own1 σ r l o W → Below K.lo w W := by
 have h1 := h.calm hb
 obtain ⟨vv, code, place, deep, zs, vs, rH, _⟩ := h.is
 obtain ⟨own1, g1, g2, g3, g4⟩ := h1.restart
 have bm := h.lt
 have sf := h.ok.cl
 have aY := hb.size
 have kU : Below K.lo w w1 := hb.mono (by omega)
 have bK : ∀ k, own1 = some k → k < w.heap.size := by
  intro k hk
  obtain ⟨Nh, c', p', d', z', s', q1, q2, q3⟩ := g1.is
  rcases q3 with q3 | ⟨j, q3, q4⟩
  ·have e1 := q1.blk
   rw [hb.block K.cb bm.1, rH.blk] at e1
   have e3 : Nh = vv := by
    injection e1 with e1
    injection e1 with e1
    have := congrArg (fun a : Array Value => a[7]?) e1
    simpa [SK.cells] using this.symm
   rw [e3, hk] at q3
   exact (rH.var.lt k q3).2
  ·have := (q1.var.lt j q3).2; omega
 have cL : ∀ W σ r l o, SS K w1 own1 σ r l o W → ∀ k, w.heap.size ≤ k → k < w1.heap.size → W.heap[k]? = w1.heap[k]? := by
  intro W σ r l o hW k mP oT
  exact hW.keep oT (by omega) (by omega) (fun e => by have := bK k e.symm; omega)
 refine ⟨own1, g1, g4, ?_, ?_⟩
 ·have k_U5_1 := kk
  exact bU5
 ·intro W σ r l o hW
  refine kU.trans (hW.below (by omega) (fun k hk => ?_))
  have := (g2 k hk).1
  have := h.ok.cu
  omega
theorem DZ {K : SK} {w w1 : World} {own1 : Option Nat} {T : Nd} {v u : Value} {p : Nat} {lo : Nat} (hE : SEnv K w) (hN : SNd K w T v) (ha : LX w1 lo u T.len (fun i => (aP T p i : Nat)))
  (KF : T.len ≠ 0 → ∃ g off cap, u = .slice (some ⟨g, off, none⟩) T.len cap ∧ (T.len ≤ cap ∧ cap ≤ 9223372036854775807) ∧ ∀ W σ r l o, SS K w1 own1 σ r l o W → ∀ i, i < T.len → W.cell? ⟨g, off + i, none⟩ = some (.int .i64 (aP T p i : Nat)))
  (mG : ∀ W σ r l o, SS K w1 own1 σ r l o W → Below K.lo w W) : ∃ us, qC K w1 own1 T p 0 T.len v u us := by
 obtain ⟨a, cap, hv, hc, _⟩ := ar.1 hN.row
 subst hv
 by_cases h0 : T.len = 0
 ·obtain ⟨a', ca, hu, iQ, oC, _⟩ := ha
  refine ⟨fun _ => .tuple #[], ⟨⟨a, cap, rfl, hc.1, hc.2, a', ca, hu, iQ, oC, .inl h0⟩, fun W σ r l o hW => hE.later (mG W σ r l o hW), fun W σ r l o hW i hi => by omega⟩⟩
 ·obtain ⟨g, off, ph, hv, tf, bQ, bz⟩ := mJ hN.row h0
  injection hv with e1 e2 e3
  subst e1
  subst e3
  obtain ⟨ga, oa, ca, rfl, sh, iH⟩ := KF h0
  refine ⟨fun i => if h : i < T.len then (bz i h).choose else .tuple #[], ⟨⟨_, cap, rfl, bQ.1, bQ.2, _, ca, rfl, sh.1, sh.2, .inr ⟨g, off, ga, oa, rfl, rfl, fun W σ r l o hW i hi => ?_⟩⟩, fun W σ r l o hW => hE.later (mG W σ r l o hW), fun W σ r l o hW i hi => ?_⟩⟩
  ·have hx := (bz i hi).choose_spec.1 W (mG W σ r l o hW)
   simp only [Nat.zero_add, hi, dif_pos]
   exact ⟨iH W σ r l o hW i hi, hx⟩
  ·have hx := (bz i hi).choose_spec.2
   simp only [Nat.zero_add, hi, dif_pos]
   exact (hN.kid hi hx).later (mG W σ r l o hW)
theorem z8 {σ : Type} {f : Nat → σ → CR σ} {s : σ} {j : Nat} {e : Int × Nat} (h : forN f j s = .error e) : ∀ {n : Nat}, j ≤ n → forN f n s = .error e := by
 intro n hn
 induction hn with
 |refl => exact h
 |step _ ih => simp only [forN, ih]; rfl
end Go.Proofs.YtkfbbdhidecefaaDoor
