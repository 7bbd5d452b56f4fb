import Derived.Test.YteaocammohcgoaaGreatDoorVKdM
set_option linter.unusedVariables false
set_option maxHeartbeats 16000000
set_option maxRecDepth 100000
namespace Go.Proofs.YteaocammohcgoaaGreatDoor
open Go.RowKit
variable {G : Prop}
theorem bL0 (h : G := by
 rw [hk, e2, Bool.false_and]
 clear hr hq ih
 exact bL4) : G := h
theorem bL1 (h : G := by
 clear hr hq ih
 exact bL4) : G := h
theorem bL2 (h : G := by
 clear hq hr ih
 go_enter Tryz.func96, Tryz.ntmps96
 go_wp2
 go_ret
 exact ⟨rfl, bA⟩) : G := h
theorem bL3 (h : G := by
 go_ret
 exact ⟨rfl, (fp.out _).trans (hb1.mono (by simp))⟩) : G := h
theorem bL4 (h : G := by
 go_enter Tryz.func73, Tryz.ntmps73
 go_wp2
 go_ret
 exact ⟨rfl, fp.out _⟩) : G := h
theorem bL5 (h : G := by
 intro h0
 obtain ⟨a, cap, e1, e2, e3, e4⟩ := ha
 rcases e4 with e | ⟨g, off, rfl, q1, q2, q3⟩
 ·exact absurd e h0
 refine ⟨g, off, cap, e1, ⟨e2, e3⟩, fun W σ r l o hW i hi => ?_⟩
 first
 |clear k_L5_0
  rw [b8] at q1
  rw [World.cell?_of_block (a := ⟨g, off + i, none⟩) (cz W σ r l o hW g (by omega) q2)]
  exact q3 i hi
 |clear k_L5_1
  rw [World.cell?_of_block (a := ⟨g, off + i, none⟩) (cz W σ r l o hW g q1 q2)]
  exact q3 i hi) : G := h
theorem L6 {T : Nd} (cg : ∀ U : Nd, U.size < T.size → l9 U) : l9 T := by
 have ih : ∀ i, i < T.len → l9 (T.kids i) := fun i hi => cg _ (by have := aL T hi; omega)
 intro K w0 az s cx w v hS hE hN ay aS bZ fy tS
 rcases sN aS with h | h | h | h | h | h | h | h | h | h | h | h | h | h | h | h | h
 ·exact st_4 h ih K w0 az s cx w v hS hE hN ay aS bZ fy tS
 ·exact st_5 h K w0 az s cx w v hS hE hN ay aS bZ fy tS
 ·exact st_6 h K w0 az s cx w v hS hE hN ay aS bZ fy tS
 ·exact st_7 h K w0 az s cx w v hS hE hN ay aS bZ fy tS
 ·exact st_8 h K w0 az s cx w v hS hE hN ay aS bZ fy tS
 ·exact st_9 h K w0 az s cx w v hS hE hN ay aS bZ fy tS
 ·exact Q5 h ih K w0 az s cx w v hS hE hN ay aS bZ fy tS
 ·rcases Dl h aS with ⟨hl, hb⟩ | ⟨hl, he, hb⟩
  ·exact L8 h hl hb ih K w0 az s cx w v hS hE hN ay aS bZ fy tS
  ·exact L7 h hl he hb ih K w0 az s cx w v hS hE hN ay aS bZ fy tS
 ·exact Q4 h K w0 az s cx w v hS hE hN ay aS bZ fy tS
 ·exact Q3 h K w0 az s cx w v hS hE hN ay aS bZ fy tS
 ·exact Q2 h K w0 az s cx w v hS hE hN ay aS bZ fy tS
 ·exact Q1 h cg K w0 az s cx w v hS hE hN ay aS bZ fy tS
 ·exact Q0 h K w0 az s cx w v hS hE hN ay aS bZ fy tS
 ·exact QZ h K w0 az s cx w v hS hE hN ay aS bZ fy tS
 ·exact QY h K w0 az s cx w v hS hE hN ay aS bZ fy tS
 ·exact QX h K w0 az s cx w v hS hE hN ay aS bZ fy tS
 ·exact QW h K w0 az s cx w v hS hE hN ay aS bZ fy tS
theorem Dh : ∀ T : Nd, l9 T := by
 have h : ∀ n : Nat, ∀ T : Nd, T.size ≤ n → l9 T := by
  intro n
  induction n with
  |zero => intro T hT; have := T.size_eq; omega
  |succ n ih => intro T hT; exact L6 fun U hU => ih U (by omega)
 exact fun T => h _ T lr
def BrS (T : Nd) : Prop := ∀ (w : World) (v : Value) (hi : Nat), T.Fine → hi ≤ w.heap.size → Row 0 hi w T v →
 Calls Tryz.prog 96 #[T.val v] w fun e w' => e = .returned (.bool (cV T)) ∧ Below w.heap.size w w'
theorem sz (T : Nd) : cV T = if T.kind = 17 then true else if T.kind = 11 ∨ T.kind = 15 then false else fQ (fun i => cV (T.kids i)) T.len := by
 cases T <;> rfl
theorem Lx (T : Nd) (ih : ∀ i, i < T.len → BrS (T.kids i)) : BrS T := by
 intro w v hi hf dF hr
 have hn := T.fine_len hf
 rw [sz]
 obtain ⟨a, cap, rfl, cr, hq⟩ := aH.1 hr
 have HR := aa hq
 have HF := aa hf
 have J9 := aa ih
 unfold Nd.val
 by_cases qO : T.kind = 17
 ·rw [if_pos qO, qO]
  exact bL2
 rw [if_neg qO]
 have h17' : (T.kind == 17) = false := bn qO
 by_cases mW : T.kind = 11
 ·rw [if_pos (.inl mW)]
  rw [mW] at *
  exact bL2
 by_cases sf : T.kind = 15
 ·rw [if_pos (.inr sf)]
  rw [sf] at *
  exact bL2
 rw [if_neg (by omega)]
 have h11' : (T.kind == 11) = false := bn mW
 have h15' : (T.kind == 15) = false := bn sf
 clear hq hr ih qO mW sf hf
 generalize hk : T.kind = tk at *
 generalize hm : T.num = tn at *
 generalize hs : T.name = ts at *
 clear hk hm hs
 have fp : Hid (Below w.heap.size w (w.alloc (.cells #[.int .i64 tk, .int .i64 tn, .string ts, .slice a T.len cap] 25))) := bA
 go_enter Tryz.func96, Tryz.ntmps96
 go_wp2
 go_loopw [3] (fun i wr => ∃ j : Nat, j ≤ T.len ∧ i = .int .i64 j ∧ fQ (fun i => cV (T.kids i)) j = false ∧ Below (w.heap.size + 1) (w.alloc (.cells #[.int .i64 tk, .int .i64 tn, .string ts, .slice a T.len cap] 25)) wr) (fun i _ => T.len - (intOf i).toNat)
 case atStart => exact ⟨0, Nat.zero_le _, rfl, rfl, by have := Below.refl (w.heap.size + 1) (w.alloc (.cells #[.int .i64 tk, .int .i64 tn, .string ts, .slice a T.len cap] 25)); exact this⟩
 case round =>
  obtain ⟨j, hj, rfl, EU, hb⟩ := hrel
  have k3 : wr.cell? ⟨w.heap.size, 3, none⟩ = some (.slice a T.len cap) := by
   rw [hb.cell (p := ⟨w.heap.size, 3, none⟩) (by show w.heap.size < _; omega)]; simp
  have fP : w.heap.size + 1 ≤ wr.heap.size := by have := hb.size; simpa using this
  have HB := aa hb
  have FY := aa EU
  clear hb EU
  by_cases bN : j < T.len
  ·rcases HR.out with h0 | ⟨g, off, rfl, h1, h2, h3⟩
   ·omega
   obtain ⟨u, e0, e1, e2, e3, hu⟩ := h3 j bN
   have iM : g < w.heap.size := by omega
   have u7 := fp.out.trans (HB.out.mono (Nat.le_succ _))
   rw [← u7.cell (p := ⟨g, _, none⟩) iM] at e0 e1 e2 e3
   have HC := aa (J9.out j bN wr u hi (Nd.fine_kid HF.out bN) (by omega) (ah u7 dF hu))
   unfold Nd.val at HC
   have tT : (j : Int) < (T.len : Int) := by omega
   clear h3 hu u7
   cases Br : cV (T.kids j) with
   |true =>
    rw [Br] at HC
    have HA : Hid (fQ (fun i => cV (T.kids i)) T.len = true) := by
     have bl : ∀ n, j < n → fQ (fun i => cV (T.kids i)) n = true := by
      intro n hn
      induction n with
      |zero => omega
      |succ n ih =>
       simp only [fQ, Bool.or_eq_true]
       by_cases e : j = n
       ·subst e; exact .inr Br
       ·exact .inl (ih (by omega))
     exact bl _ bN
    clear Br
    go_wp2_with (go_at_call 96; refine HC.out.mono ?_; rintro e w1 ⟨rfl, hb1⟩)
    go_ret
    exact ⟨by rw [HA.out]; rfl, fp.out.trans ((HB.out.mono (Nat.le_succ _)).trans (hb1.mono (by omega)))⟩
   |false =>
    rw [Br] at HC
    have HN : Hid (fQ (fun i => cV (T.kids i)) (j + 1) = false) := by
     unfold Hid; simp only [fQ, FY.out, Br, Bool.or_self]
    clear Br
    go_wp2_with (go_at_call 96; refine HC.out.mono ?_; rintro e w1 ⟨rfl, hb1⟩)
    exact ⟨⟨j + 1, by omega, by go_num, HN.out, HB.out.trans (hb1.mono fP)⟩, by simp [intOf]; omega⟩
  ·go_wp2
   go_ret
   obtain rfl : j = T.len := by omega
   exact ⟨by rw [FY.out]; rfl, fp.out.trans (HB.out.mono (Nat.le_succ _))⟩
theorem Oe (T : Nd) : BrS T := by
 induction T with
 |nil => exact Lx _ fun i hi => absurd hi (Nat.not_lt_zero i)
 |mk k n s len kids ih => exact Lx _ fun i _ => ih i
def Gx (T : Nd) : Prop := ∀ (w : World) (v : Value) (hi : Nat), T.Fine → hi ≤ w.heap.size → Row 0 hi w T v →
 Calls Tryz.prog 73 #[T.val v] w fun e w' => e = .returned (.bool (fA T)) ∧ Below w.heap.size w w'
theorem jz (T : Nd) : fA T = if T.kind = 12 ∨ T.kind = 21 then true else if T.kind = 4 then decide (0 < T.len) && fA (T.kids (T.len - 1)) else if T.kind = 10 then decide (T.len = 3) && (fA (T.kids 1) && fA (T.kids 2)) else if T.kind = 11 then decide (T.len = 1) && !cV (T.kids 0) else false := by
 cases T <;> rfl
theorem ye {T : Nd} {w : World} {hi : Nat} {v : Value} (hf : T.Fine) (hr : Row 0 hi w T v) (ih : ∀ i, i < T.len → Gx (T.kids i)) (dF : hi ≤ w.heap.size) (h0 : T.len ≠ 0) : ∃ g off cap, v = .slice (some ⟨g, off, none⟩) T.len cap ∧ g < hi ∧ (T.len ≤ cap ∧ cap ≤ 9223372036854775807) ∧ ∀ i, i < T.len →
    ∃ u, (∀ W, Below w.heap.size w W → W.cell? ⟨g, off + i * 4, none⟩ = some (.int .i64 (T.kids i).kind) ∧ W.cell? ⟨g, off + i * 4 + 1, none⟩ = some (.int .i64 (T.kids i).num) ∧
        W.cell? ⟨g, off + i * 4 + 2, none⟩ = some (.string (T.kids i).name) ∧ W.cell? ⟨g, off + i * 4 + 3, none⟩ = some u) ∧
      ∀ W, Below w.heap.size w W → (Calls Tryz.prog 73 #[.agg #[.int .i64 (T.kids i).kind, .int .i64 (T.kids i).num, .string (T.kids i).name, u]] W fun e w' => e = .returned (.bool (fA (T.kids i))) ∧ Below W.heap.size W w') ∧
        (Calls Tryz.prog 96 #[.agg #[.int .i64 (T.kids i).kind, .int .i64 (T.kids i).num, .string (T.kids i).name, u]] W fun e w' => e = .returned (.bool (cV (T.kids i))) ∧ Below W.heap.size W w') := by
  obtain ⟨g, off, cap, hv, hg, hc, hk⟩ := dq hr h0
  refine ⟨g, off, cap, hv, hg, hc, fun i fO => ?_⟩
  obtain ⟨u, h1, h2⟩ := hk i fO
  refine ⟨u, fun W hb => h1 W (hb.mono dF), fun W hb => ⟨?_, ?_⟩⟩
  · exact ih i fO W u hi (Nd.fine_kid hf fO) (Nat.le_trans dF hb.size) (ah (hb.mono dF) lr h2)
  · exact Oe (T.kids i) W u hi (Nd.fine_kid hf fO) (Nat.le_trans dF hb.size) (ah (hb.mono dF) lr h2)
theorem en_4 {T : Nd} (hk : T.kind = 4) (ih : ∀ i, i < T.len → Gx (T.kids i)) : Gx T := by
 intro w v hi hf dF hr
 have hn := T.fine_len hf
 rw [jz, if_neg (by omega), if_pos hk]
 have fp := aa (fun o => bO w o)
 have bH := jK
 by_cases h0 : T.len = 0
 ·obtain ⟨a, cap, rfl, cr, hq⟩ := aH.1 hr
  unfold Nd.val
  rw [hk, h0]
  exact bL1
 ·obtain ⟨g, off, cap, rfl, hg, cr, aV⟩ := ye hf hr ih dF h0
  obtain ⟨m, hm⟩ : ∃ m, T.len = m + 1 := ⟨T.len - 1, by omega⟩
  obtain ⟨u, hc, u6⟩ := aV m (by omega)
  have HC := aa (hc _ (fp.out (.cells #[.int .i64 4, .int .i64 T.num, .string T.name, .slice (some ⟨g, off, none⟩) T.len cap] 25)))
  have HE := aa (fun W hb => (u6 W hb).1)
  unfold Nd.val
  rw [hk]
  have iB : (0 : Int) < (T.len : Int) := by omega
  have e1 : T.len - 1 = m := by omega
  have e2 : decide (0 < T.len) = true := decide_eq_true (by omega)
  have hlm : (T.len : Int) - 1 = m := by omega
  have EF : m < T.len := by omega
  rw [e1, e2, Bool.true_and]
  clear hr ih hc u6 aV hf hk e1 hm
  generalize T.len = L at *
  generalize T.kids m = M at *
  obtain ⟨c0, c1, c2, c3⟩ := HC.out
  have fz : g < w.heap.size := by omega
  generalize fA M = eb at *
  go_enter Tryz.func73, Tryz.ntmps73
  go_wp2_with (go_at_call 73; refine (HE.out _ (fp.out _)).mono ?_; rintro e w1 ⟨rfl, hb1⟩)
  exact bL3
theorem Uo {T : Nd} (hk : T.kind = 10) (ih : ∀ i, i < T.len → Gx (T.kids i)) : Gx T := by
 intro w v hi hf dF hr
 have hn := T.fine_len hf
 rw [jz, if_neg (by omega), if_neg (by omega), if_pos hk]
 have fp := aa (fun o => bO w o)
 by_cases h0 : T.len = 3
 ·obtain ⟨g, off, cap, rfl, hg, cr, aV⟩ := ye hf hr ih dF (by omega)
  obtain ⟨u1, eM, iZ⟩ := aV 1 (by omega)
  obtain ⟨u2, iG, p6⟩ := aV 2 (by omega)
  have fT := aa eM
  have nI := aa iG
  have tU := aa (fun W hb => (iZ W hb).1)
  have Kc := aa (fun W hb => (p6 W hb).1)
  unfold Nd.val
  rw [hk]
  rw [h0] at *
  have e2 : decide (3 = 3) = true := by decide
  rw [e2, Bool.true_and]
  clear hr ih eM iZ iG p6 aV hf hk e2
  generalize T.kids 1 = M1 at *
  generalize T.kids 2 = M2 at *
  obtain ⟨gS, gN, gR, gM⟩ := fT.out _ (fp.out (.cells #[.int .i64 10, .int .i64 T.num, .string T.name, .slice (some ⟨g, off, none⟩) 3 cap] 25))
  simp only [Nat.one_mul] at gS gN gR gM
  have fz : g < w.heap.size := by omega
  cases hb1 : fA M1 with
  |false =>
   rw [hb1] at tU
   clear hb1
   go_enter Tryz.func73, Tryz.ntmps73
   go_wp2_with (go_at_call 73; refine (tU.out _ (fp.out _)).mono ?_; rintro e w1 ⟨rfl, hb1⟩)
   exact bL3
  |true =>
   rw [hb1] at tU
   clear hb1
   have P1 : Hid True := trivial
   generalize fA M2 = eb at *
   go_enter Tryz.func73, Tryz.ntmps73
   go_wp2_with (first
    |(clear P1; go_at_call 73; refine (tU.out _ (fp.out _)).mono ?_; rintro e w1 ⟨rfl, hb1⟩; have fC := (fp.out _).trans (hb1.mono (by simp)); obtain ⟨rh, re, oN, oM⟩ := nI.out _ fC; have k3 : w1.cell? ⟨w.heap.size, 3, none⟩ = some (.slice (some ⟨g, off, none⟩) 3 cap) := (hb1.cell (p := ⟨w.heap.size, 3, none⟩) (by simp)).trans (by simp); have B4 := aa fC; clear fC hb1)
    |(go_at_call 73; refine (Kc.out _ B4.out).mono ?_; rintro e w2 ⟨rfl, ba⟩))
   go_ret
   exact ⟨rfl, B4.out.trans (ba.mono B4.out.size)⟩
 ·obtain ⟨a, cap, rfl, cr, hq⟩ := aH.1 hr
  unfold Nd.val
  have e2 : decide (T.len = 3) = false := decide_eq_false h0
  have e3 : ((T.len : Int) == 3) = false := bn (by omega)
  exact bL0
theorem Un {T : Nd} (hk : T.kind = 11) (ih : ∀ i, i < T.len → Gx (T.kids i)) : Gx T := by
 intro w v hi hf dF hr
 have hn := T.fine_len hf
 rw [jz, if_neg (by omega), if_neg (by omega), if_neg (by omega), if_pos hk]
 have fp := aa (fun o => bO w o)
 by_cases h0 : T.len = 1
 ·obtain ⟨g, off, cap, rfl, hg, cr, aV⟩ := ye hf hr ih dF (by omega)
  obtain ⟨u1, eM, iZ⟩ := aV 0 (by omega)
  have fT := aa eM
  have tU := aa (fun W hb => (iZ W hb).2)
  unfold Nd.val
  rw [hk]
  rw [h0] at *
  have e2 : decide (1 = 1) = true := by decide
  rw [e2, Bool.true_and]
  clear hr ih eM iZ aV hf hk e2
  generalize T.kids 0 = M1 at *
  obtain ⟨gS, gN, gR, gM⟩ := fT.out _ (fp.out (.cells #[.int .i64 11, .int .i64 T.num, .string T.name, .slice (some ⟨g, off, none⟩) 1 cap] 25))
  simp only [Nat.zero_mul, Nat.add_zero] at gS gN gR gM
  have fz : g < w.heap.size := by omega
  generalize cV M1 = eb at *
  have SY : ∀ (x : Bool) (w : World), (Op.unary .not (.bool x)).run Tryz.prog w = .ok (.bool (!x)) w := fun _ _ => rfl
  go_enter Tryz.func73, Tryz.ntmps73
  go_wp2_with (go_at_call 96; refine (tU.out _ (fp.out _)).mono ?_; rintro e w1 ⟨rfl, hb1⟩)
  exact bL3
 ·obtain ⟨a, cap, rfl, cr, hq⟩ := aH.1 hr
  unfold Nd.val
  have e2 : decide (T.len = 1) = false := decide_eq_false h0
  have e3 : ((T.len : Int) == 1) = false := bn (by omega)
  exact bL0
theorem Lt (T : Nd) (ih : ∀ i, i < T.len → Gx (T.kids i)) : Gx T := by
 by_cases h4 : T.kind = 4
 ·exact en_4 h4 ih
 by_cases si : T.kind = 10
 ·exact Uo si ih
 by_cases mW : T.kind = 11
 ·exact Un mW ih
 intro w v hi hf dF hr
 rw [jz]
 have fp := aa (fun o => bO w o)
 obtain ⟨a, cap, rfl, cr, hq⟩ := aH.1 hr
 unfold Nd.val
 by_cases sh : T.kind = 12
 ·rw [if_pos (.inl sh), sh]
  exact bL1
 by_cases xS : T.kind = 21
 ·rw [if_pos (.inr xS), xS]
  exact bL1
 rw [if_neg (by omega), if_neg h4, if_neg si, if_neg mW]
 have q4 : (T.kind == 4) = false := bn h4
 have q10 : (T.kind == 10) = false := bn si
 have q11 : (T.kind == 11) = false := bn mW
 have q12 : (T.kind == 12) = false := bn sh
 have q21 : (T.kind == 21) = false := bn xS
 clear hr hq ih h4 si mW sh xS
 generalize T.kind = tk at *
 exact bL4
theorem N0 (T : Nd) : Gx T := by
 induction T with
 |nil => exact Lt _ fun i hi => absurd hi (Nat.not_lt_zero i)
 |mk k n s len kids ih => exact Lt _ fun i _ => ih i
def dV (K : SK) (w : World) (r : Int) : World := ((w.setCell ⟨K.cb, 7, none⟩ (.slice none 0 0)).setCell ⟨K.cb, 8, none⟩ (.int .i64 1)).setCell ⟨K.cb, 9, none⟩ (.int .i64 r)
theorem jy (K : SK) (w : World) (r : Int) (k : Nat) (h : k ≠ K.cb) : (dV K w r).heap[k]? = w.heap[k]? := by
 unfold dV
 rw [Below.heap_setCell _ ⟨K.cb, 9, none⟩ _ k h, Below.heap_setCell _ ⟨K.cb, 8, none⟩ _ k h, Below.heap_setCell _ ⟨K.cb, 7, none⟩ _ k h]
theorem jx (K : SK) (w : World) (r : Int) : (dV K w r).heap.size = w.heap.size := by simp [dV, World.setCell]
theorem tz (K : SK) (w : World) (r : Int) (h : K.lo ≤ K.cb) : Below K.lo w (dV K w r) :=
 ⟨by simp [dV, World.setCell], by simp [dV, World.setCell], by simp [dV, World.setCell], by rw [jx]; exact Nat.le_refl _, fun k hk => jy K w r k (by omega)⟩
theorem SS.fresh {K : SK} {w0 : World} {az : Option Nat} {E : Sc} {X : List Int} {ret loops outs : Int} {w : World} (h : SS K w0 az (.ok (E, X)) ret loops outs w) (r : Int) : SS K (dV K w r) none (.ok ([[]], X)) r loops outs (dV K w r) := by
 obtain ⟨vv, code, place, deep, zs, vs, h1, ⟨a1, a2, a3, a4, a5, a6, a7, a8⟩, h3⟩ := h.is
 refine ⟨h.ok, ⟨.slice none 0 0, code, place, 1, zs, [], ?_, ⟨a1, a2, rfl, a4, a5, rfl, Nat.zero_le _, by simp⟩, .inl rfl⟩, Kept.refl _ _⟩
 refine ⟨?_, ?_, h1.len, World.ownsRow_nil _ _ _ _⟩
 ·unfold dV
  rw [heap_setCell_same _ K.cb 9 _ _ _ (heap_setCell_same _ K.cb 8 _ _ _ (heap_setCell_same _ K.cb 7 _ _ _ h1.blk))]
  rfl
 ·rw [jy K w r K.tb (fun e => h.ok.ne e.symm)]; exact h1.typ
theorem AN {K : SK} {w0 : World} {az : Option Nat} {E : Sc} {X : List Int} {ret loops outs : Int} {w w1 : World} {T : Nd} {v u : Value} {p : Nat} {t : TypeId} (h : SS K w0 az (.ok (E, X)) ret loops outs w) (r : Int)
  (hb : Below (w.alloc (.cells #[.int .i64 T.kind, .int .i64 T.num, .string T.name, v] t)).heap.size (w.alloc (.cells #[.int .i64 T.kind, .int .i64 T.num, .string T.name, v] t)) w1)
  (ha : Kw w1 (w.alloc (.cells #[.int .i64 T.kind, .int .i64 T.num, .string T.name, v] t)).heap.size u T.len (fun i => (aW T p i : Nat))) :
  SS K (dV K w1 r) none (.ok ([[]], X)) r loops outs (dV K w1 r) ∧ SGo K w (dV K w1 r) none w.heap.size T v u p := by
 have h1 := (h.alloc (.cells #[.int .i64 T.kind, .int .i64 T.num, .string T.name, v] t)).calm hb
 have bN := h.lt
 have zr := h.ok.cl
 have b8 : (w.alloc (.cells #[.int .i64 T.kind, .int .i64 T.num, .string T.name, v] t)).heap.size = w.heap.size + 1 := by simp
 have aD := hb.size
 rw [b8] at aD
 have fC : Below K.lo w w1 := (h.box _).trans (hb.mono (by rw [b8]; omega))
 have hbf : Below K.lo w (dV K w1 r) := fC.trans (tz K w1 r zr)
 have cz : ∀ W σ r' l o, SS K (dV K w1 r) none σ r' l o W → ∀ k, w.heap.size ≤ k → k < w1.heap.size → W.heap[k]? = w1.heap[k]? := by
  intro W σ r' l o hW k jE jL
  rw [hW.keep (k := k) (by rw [jx]; exact jL) (by omega) (by omega) (fun e => by cases e)]
  exact jy K w1 r k (by omega)
 refine ⟨h1.fresh r, hbf, ?_, ?_, ?_⟩
 ·intro W σ r l o hW
  have e1 := cz W σ r l o hW w.heap.size lr (by omega)
  have e2 : w1.heap[w.heap.size]? = some (.cells #[.int .i64 T.kind, .int .i64 T.num, .string T.name, v] t) := (hb.block _ (by rw [b8]; omega)).trans (heap_alloc_new w _)
  rw [e2] at e1
  refine ⟨?_, ?_, ?_, ?_⟩ <;> simp [World.cell?, e1]
 ·have k_L5_0 := kk
  exact bL5
 ·intro W σ r l o hW
  exact hbf.trans (hW.below (by rw [jx]; omega) (fun k hk => by cases hk))
theorem Me {K : SK} {w0 : World} {az : Option Nat} {σ : CR CS} {ret loops outs : Int} {w w1 : World} {T : Nd} {u : Value} {p : Nat} (h : SS K w0 az σ ret loops outs w) (hb : Below w.heap.size w w1) (ha : Kw w1 w.heap.size u T.len (fun i => (aW T p i : Nat))) :
  ∃ own1, SS K w1 own1 σ ret loops outs w1 ∧ (∀ σ' r l o W, SS K w1 own1 σ' r l o W → SS K w0 az σ' r l o W) ∧
   (T.len ≠ 0 → ∃ g off cap, u = .slice (some ⟨g, off, none⟩) T.len cap ∧ (T.len ≤ cap ∧ cap ≤ 9223372036854775807) ∧ ∀ W σ r l o, SS K w1 own1 σ r l o W → ∀ i, i < T.len → W.cell? ⟨g, off + i, none⟩ = some (.int .i64 (aW T p i : Nat))) ∧
   ∀ W σ r l o, SS K w1 own1 σ r l o W → Below K.lo w W := by
 have h1 := h.calm hb
 obtain ⟨vv, code, place, deep, zs, vs, kI, _⟩ := h.is
 obtain ⟨own1, g1, g2, g3, g4⟩ := h1.restart
 have bN := h.lt
 have zr := h.ok.cl
 have aD := hb.size
 have fC : Below K.lo w w1 := hb.mono (by omega)
 have cY : ∀ k, own1 = some k → k < w.heap.size := by
  intro k hk
  obtain ⟨LK, c', p', d', z', s', q1, q2, q3⟩ := g1.is
  rcases q3 with q3 | ⟨j, q3, q4⟩
  ·have e1 := q1.blk
   rw [hb.block K.cb bN.1, kI.blk] at e1
   have e3 : LK = vv := by
    injection e1 with e1
    injection e1 with e1
    have := congrArg (fun a : Array Value => a[7]?) e1
    simpa [SK.cells] using this.symm
   rw [e3, hk] at q3
   exact (kI.var.lt k q3).2
  ·have := (q1.var.lt j q3).2; omega
 have cz : ∀ W σ r l o, SS K w1 own1 σ r l o W → ∀ k, w.heap.size ≤ k → k < w1.heap.size → W.heap[k]? = w1.heap[k]? := by
  intro W σ r l o hW k jE jL
  exact hW.keep jL (by omega) (by omega) (fun e => by have := cY k e.symm; omega)
 refine ⟨own1, g1, g4, ?_, ?_⟩
 ·have k_L5_1 := kk
  exact bL5
 ·intro W σ r l o hW
  refine fC.trans (hW.below (by omega) (fun k hk => ?_))
  have := (g2 k hk).1
  have := h.ok.cu
  omega
theorem AL {K : SK} {w w1 : World} {own1 : Option Nat} {T : Nd} {v u : Value} {p : Nat} {lo : Nat} (hE : SEnv K w) (hN : SNd K w T v) (ha : Kw w1 lo u T.len (fun i => (aW T p i : Nat)))
  (IV : T.len ≠ 0 → ∃ g off cap, u = .slice (some ⟨g, off, none⟩) T.len cap ∧ (T.len ≤ cap ∧ cap ≤ 9223372036854775807) ∧ ∀ W σ r l o, SS K w1 own1 σ r l o W → ∀ i, i < T.len → W.cell? ⟨g, off + i, none⟩ = some (.int .i64 (aW T p i : Nat)))
  (lu : ∀ W σ r l o, SS K w1 own1 σ r l o W → Below K.lo w W) : ∃ us, my K w1 own1 T p 0 T.len v u us := by
 obtain ⟨a, cap, hv, hc, _⟩ := aH.1 hN.row
 subst hv
 by_cases h0 : T.len = 0
 ·obtain ⟨a', ca, hu, eM, iG, _⟩ := ha
  refine ⟨fun _ => .tuple #[], ⟨⟨a, cap, rfl, hc.1, hc.2, a', ca, hu, eM, iG, .inl h0⟩, fun W σ r l o hW => hE.later (lu W σ r l o hW), fun W σ r l o hW i hi => by omega⟩⟩
 ·obtain ⟨g, off, mQ, hv, iM, cr, aV⟩ := dq hN.row h0
  injection hv with e1 e2 e3
  subst e1
  subst e3
  obtain ⟨ga, oa, ca, rfl, nL, fc⟩ := IV h0
  refine ⟨fun i => if h : i < T.len then (aV i h).choose else .tuple #[], ⟨⟨_, cap, rfl, cr.1, cr.2, _, ca, rfl, nL.1, nL.2, .inr ⟨g, off, ga, oa, rfl, rfl, fun W σ r l o hW i hi => ?_⟩⟩, fun W σ r l o hW => hE.later (lu W σ r l o hW), fun W σ r l o hW i hi => ?_⟩⟩
  ·have hx := (aV i hi).choose_spec.1 W (lu W σ r l o hW)
   simp only [Nat.zero_add, hi, dif_pos]
   exact ⟨fc W σ r l o hW i hi, hx⟩
  ·have hx := (aV i hi).choose_spec.2
   simp only [Nat.zero_add, hi, dif_pos]
   exact (hN.kid hi hx).later (lu W σ r l o hW)
theorem im {σ : Type} {f : Nat → σ → CR σ} {s : σ} {j : Nat} {e : Int × Nat} (h : forN f j s = .error e) : ∀ {n : Nat}, j ≤ n → forN f n s = .error e := by
 intro n hn
 induction hn with
 |refl => exact h
 |step _ ih => simp only [forN, ih]; rfl
end Go.Proofs.YteaocammohcgoaaGreatDoor
