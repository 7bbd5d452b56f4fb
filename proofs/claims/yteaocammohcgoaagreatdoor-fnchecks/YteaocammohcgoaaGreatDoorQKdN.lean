import Derived.Test.YteaocammohcgoaaGreatDoorQKdM
set_option linter.unusedVariables false
set_option maxHeartbeats 16000000
set_option maxRecDepth 100000
namespace Go.Proofs.YteaocammohcgoaaGreatDoor
open Go.RowKit
variable {G : Prop}
theorem bO0 (h : G := by
 rw [hk, e2, Bool.false_and]
 clear hr hq ih
 exact bO4) : G := h
theorem bO1 (h : G := by
 clear hr hq ih
 exact bO4) : G := h
theorem bO2 (h : G := by
 clear hq hr ih
 go_enter Tryz.func96, Tryz.ntmps96
 go_wp2
 go_ret
 exact ⟨rfl, bA⟩) : G := h
theorem bO3 (h : G := by
 go_ret
 exact ⟨rfl, (dY.out _).trans (hb1.mono (by simp))⟩) : G := h
theorem bO4 (h : G := by
 go_enter Tryz.func73, Tryz.ntmps73
 go_wp2
 go_ret
 exact ⟨rfl, dY.out _⟩) : G := h
theorem bO5 (h : G := by
 intro h0
 obtain ⟨a, cap, e1, e2, e3, e4⟩ := ha
 rcases e4 with e | ⟨g, off, rfl, q1, q2, q3⟩
 ·exact absurd e h0
 refine ⟨g, off, cap, e1, ⟨e2, e3⟩, fun W σ r l o hW i hi => ?_⟩
 first
 |clear k_0
  rw [bS] at q1
  rw [World.cell?_of_block (a := ⟨g, off + i, none⟩) (cM W σ r l o hW g (by omega) q2)]
  exact q3 i hi
 |clear k_1
  rw [World.cell?_of_block (a := ⟨g, off + i, none⟩) (cM W σ r l o hW g q1 q2)]
  exact q3 i hi) : G := h
theorem Lh {T : Nd} (b6 : ∀ U : Nd, U.size < T.size → lW U) : lW T := by
 have ih : ∀ i, i < T.len → lW (T.kids i) := fun i hi => b6 _ (by have := aH T hi; omega)
 intro K w0 ay s cx w v hS hE hN aq aN bh fe tA
 rcases sE aN with h | h | h | h | h | h | h | h | h | h | h | h | h | h | h | h | h
 ·exact st_4 h ih K w0 ay s cx w v hS hE hN aq aN bh fe tA
 ·exact st_5 h K w0 ay s cx w v hS hE hN aq aN bh fe tA
 ·exact st_6 h K w0 ay s cx w v hS hE hN aq aN bh fe tA
 ·exact st_7 h K w0 ay s cx w v hS hE hN aq aN bh fe tA
 ·exact st_8 h K w0 ay s cx w v hS hE hN aq aN bh fe tA
 ·exact st_9 h K w0 ay s cx w v hS hE hN aq aN bh fe tA
 ·exact PF h ih K w0 ay s cx w v hS hE hN aq aN bh fe tA
 ·rcases CV h aN with ⟨hl, hb⟩ | ⟨hl, he, hb⟩
  ·exact Lj h hl hb ih K w0 ay s cx w v hS hE hN aq aN bh fe tA
  ·exact Li h hl he hb ih K w0 ay s cx w v hS hE hN aq aN bh fe tA
 ·exact PD h K w0 ay s cx w v hS hE hN aq aN bh fe tA
 ·exact PC h K w0 ay s cx w v hS hE hN aq aN bh fe tA
 ·exact Pz h K w0 ay s cx w v hS hE hN aq aN bh fe tA
 ·exact Py h b6 K w0 ay s cx w v hS hE hN aq aN bh fe tA
 ·exact Px h K w0 ay s cx w v hS hE hN aq aN bh fe tA
 ·exact Pw h K w0 ay s cx w v hS hE hN aq aN bh fe tA
 ·exact Pv h K w0 ay s cx w v hS hE hN aq aN bh fe tA
 ·exact Pu h K w0 ay s cx w v hS hE hN aq aN bh fe tA
 ·exact Pt h K w0 ay s cx w v hS hE hN aq aN bh fe tA
theorem CP : ∀ T : Nd, lW T := by
 have h : ∀ n : Nat, ∀ T : Nd, T.size ≤ n → lW T := by
  intro n
  induction n with
  |zero => intro T hT; have := T.size_eq; omega
  |succ n ih => intro T hT; exact Lh fun U hU => ih U (by omega)
 exact fun T => h _ T lr
def BrS (T : Nd) : Prop := ∀ (w : World) (v : Value) (hi : Nat), T.Fine → hi ≤ w.heap.size → Row 0 hi w T v →
 Calls Tryz.prog 96 #[T.val v] w fun e w' => e = .returned (.bool (cL T)) ∧ Below w.heap.size w w'
theorem sm (T : Nd) : cL T = if T.kind = 17 then true else if T.kind = 11 ∨ T.kind = 15 then false else fL (fun i => cL (T.kids i)) T.len := by
 cases T <;> rfl
theorem KH (T : Nd) (ih : ∀ i, i < T.len → BrS (T.kids i)) : BrS T := by
 intro w v hi hf cY hr
 have hn := T.fine_len hf
 rw [sm]
 obtain ⟨a, cap, rfl, b7, hq⟩ := ar.1 hr
 have HR := aa hq
 have HF := aa hf
 have Jq := aa ih
 unfold Nd.val
 by_cases qK : T.kind = 17
 ·rw [if_pos qK, qK]
  exact bO2
 rw [if_neg qK]
 have h17' : (T.kind == 17) = false := bn qK
 by_cases mS : T.kind = 11
 ·rw [if_pos (.inl mS)]
  rw [mS] at *
  exact bO2
 by_cases rU : T.kind = 15
 ·rw [if_pos (.inr rU)]
  rw [rU] at *
  exact bO2
 rw [if_neg (by omega)]
 have h11' : (T.kind == 11) = false := bn mS
 have h15' : (T.kind == 15) = false := bn rU
 clear hq hr ih qK mS rU hf
 generalize hk : T.kind = tk at *
 generalize hm : T.num = tn at *
 generalize hs : T.name = ts at *
 clear hk hm hs
 have dY : Hid (Below w.heap.size w (w.alloc (.cells #[.int .i64 tk, .int .i64 tn, .string ts, .slice a T.len cap] 25))) := bA
 go_enter Tryz.func96, Tryz.ntmps96
 go_wp2
 go_loopw [3] (fun i wr => ∃ j : Nat, j ≤ T.len ∧ i = .int .i64 j ∧ fL (fun i => cL (T.kids i)) j = false ∧ Below (w.heap.size + 1) (w.alloc (.cells #[.int .i64 tk, .int .i64 tn, .string ts, .slice a T.len cap] 25)) wr) (fun i _ => T.len - (intOf i).toNat)
 case atStart => exact ⟨0, Nat.zero_le _, rfl, rfl, by have := Below.refl (w.heap.size + 1) (w.alloc (.cells #[.int .i64 tk, .int .i64 tn, .string ts, .slice a T.len cap] 25)); exact this⟩
 case round =>
  obtain ⟨j, hj, rfl, Es, hb⟩ := hrel
  have k3 : wr.cell? ⟨w.heap.size, 3, none⟩ = some (.slice a T.len cap) := by
   rw [hb.cell (p := ⟨w.heap.size, 3, none⟩) (by show w.heap.size < _; omega)]; simp
  have fC : w.heap.size + 1 ≤ wr.heap.size := by have := hb.size; simpa using this
  have HB := aa hb
  have Fv := aa Es
  clear hb Es
  by_cases bB : j < T.len
  ·rcases HR.out with h0 | ⟨g, off, rfl, h1, h2, h3⟩
   ·omega
   obtain ⟨u, e0, e1, e2, e3, hu⟩ := h3 j bB
   have iW : g < w.heap.size := by omega
   have uR := dY.out.trans (HB.out.mono (Nat.le_succ _))
   rw [← uR.cell (p := ⟨g, _, none⟩) iW] at e0 e1 e2 e3
   have HC := aa (Jq.out j bB wr u hi (Nd.fine_kid HF.out bB) (by omega) (ah uR cY hu))
   unfold Nd.val at HC
   have rO : (j : Int) < (T.len : Int) := by omega
   clear h3 hu uR
   cases A7 : cL (T.kids j) with
   |true =>
    rw [A7] at HC
    have HA : Hid (fL (fun i => cL (T.kids i)) T.len = true) := by
     have bj : ∀ n, j < n → fL (fun i => cL (T.kids i)) n = true := by
      intro n hn
      induction n with
      |zero => omega
      |succ n ih =>
       simp only [fL, Bool.or_eq_true]
       by_cases e : j = n
       ·subst e; exact .inr A7
       ·exact .inl (ih (by omega))
     exact bj _ bB
    clear A7
    go_wp2_with (go_at_call 96; refine HC.out.mono ?_; rintro e w1 ⟨rfl, hb1⟩)
    go_ret
    exact ⟨by rw [HA.out]; rfl, dY.out.trans ((HB.out.mono (Nat.le_succ _)).trans (hb1.mono (by omega)))⟩
   |false =>
    rw [A7] at HC
    have HN : Hid (fL (fun i => cL (T.kids i)) (j + 1) = false) := by
     unfold Hid; simp only [fL, Fv.out, A7, Bool.or_self]
    clear A7
    go_wp2_with (go_at_call 96; refine HC.out.mono ?_; rintro e w1 ⟨rfl, hb1⟩)
    exact ⟨⟨j + 1, by omega, by go_num, HN.out, HB.out.trans (hb1.mono fC)⟩, by simp [intOf]; omega⟩
  ·go_wp2
   go_ret
   obtain rfl : j = T.len := by omega
   exact ⟨by rw [Fv.out]; rfl, dY.out.trans (HB.out.mono (Nat.le_succ _))⟩
theorem M8 (T : Nd) : BrS T := by
 induction T with
 |nil => exact KH _ fun i hi => absurd hi (Nat.not_lt_zero i)
 |mk k n s len kids ih => exact KH _ fun i _ => ih i
def FX (T : Nd) : Prop := ∀ (w : World) (v : Value) (hi : Nat), T.Fine → hi ≤ w.heap.size → Row 0 hi w T v →
 Calls Tryz.prog 73 #[T.val v] w fun e w' => e = .returned (.bool (fz T)) ∧ Below w.heap.size w w'
theorem jv (T : Nd) : fz T = if T.kind = 12 ∨ T.kind = 21 then true else if T.kind = 4 then decide (0 < T.len) && fz (T.kids (T.len - 1)) else if T.kind = 10 then decide (T.len = 3) && (fz (T.kids 1) && fz (T.kids 2)) else if T.kind = 11 then decide (T.len = 1) && !cL (T.kids 0) else false := by
 cases T <;> rfl
theorem xK {T : Nd} {w : World} {hi : Nat} {v : Value} (hf : T.Fine) (hr : Row 0 hi w T v) (ih : ∀ i, i < T.len → FX (T.kids i)) (cY : hi ≤ w.heap.size) (h0 : T.len ≠ 0) : ∃ g off cap, v = .slice (some ⟨g, off, none⟩) T.len cap ∧ g < hi ∧ (T.len ≤ cap ∧ cap ≤ 9223372036854775807) ∧ ∀ i, i < T.len →
    ∃ u, (∀ W, Below w.heap.size w W → W.cell? ⟨g, off + i * 4, none⟩ = some (.int .i64 (T.kids i).kind) ∧ W.cell? ⟨g, off + i * 4 + 1, none⟩ = some (.int .i64 (T.kids i).num) ∧
        W.cell? ⟨g, off + i * 4 + 2, none⟩ = some (.string (T.kids i).name) ∧ W.cell? ⟨g, off + i * 4 + 3, none⟩ = some u) ∧
      ∀ W, Below w.heap.size w W → (Calls Tryz.prog 73 #[.agg #[.int .i64 (T.kids i).kind, .int .i64 (T.kids i).num, .string (T.kids i).name, u]] W fun e w' => e = .returned (.bool (fz (T.kids i))) ∧ Below W.heap.size W w') ∧
        (Calls Tryz.prog 96 #[.agg #[.int .i64 (T.kids i).kind, .int .i64 (T.kids i).num, .string (T.kids i).name, u]] W fun e w' => e = .returned (.bool (cL (T.kids i))) ∧ Below W.heap.size W w') := by
  obtain ⟨g, off, cap, hv, hg, hc, hk⟩ := cN hr h0
  refine ⟨g, off, cap, hv, hg, hc, fun i fS => ?_⟩
  obtain ⟨u, h1, h2⟩ := hk i fS
  refine ⟨u, fun W hb => h1 W (hb.mono cY), fun W hb => ⟨?_, ?_⟩⟩
  · exact ih i fS W u hi (Nd.fine_kid hf fS) (Nat.le_trans cY hb.size) (ah (hb.mono cY) lr h2)
  · exact M8 (T.kids i) W u hi (Nd.fine_kid hf fS) (Nat.le_trans cY hb.size) (ah (hb.mono cY) lr h2)
theorem en_4 {T : Nd} (hk : T.kind = 4) (ih : ∀ i, i < T.len → FX (T.kids i)) : FX T := by
 intro w v hi hf cY hr
 have hn := T.fine_len hf
 rw [jv, if_neg (by omega), if_pos hk]
 have dY := aa (fun o => bO w o)
 have bI := jz
 by_cases h0 : T.len = 0
 ·obtain ⟨a, cap, rfl, b7, hq⟩ := ar.1 hr
  unfold Nd.val
  rw [hk, h0]
  exact bO1
 ·obtain ⟨g, off, cap, rfl, hg, b7, aQ⟩ := xK hf hr ih cY h0
  obtain ⟨m, hm⟩ : ∃ m, T.len = m + 1 := ⟨T.len - 1, by omega⟩
  obtain ⟨u, hc, uQ⟩ := aQ m (by omega)
  have HC := aa (hc _ (dY.out (.cells #[.int .i64 4, .int .i64 T.num, .string T.name, .slice (some ⟨g, off, none⟩) T.len cap] 25)))
  have HE := aa (fun W hb => (uQ W hb).1)
  unfold Nd.val
  rw [hk]
  have gh : (0 : Int) < (T.len : Int) := by omega
  have e1 : T.len - 1 = m := by omega
  have e2 : decide (0 < T.len) = true := decide_eq_true (by omega)
  have hlm : (T.len : Int) - 1 = m := by omega
  have Ec : m < T.len := by omega
  rw [e1, e2, Bool.true_and]
  clear hr ih hc uQ aQ hf hk e1 hm
  generalize T.len = L at *
  generalize T.kids m = M at *
  obtain ⟨c0, c1, c2, c3⟩ := HC.out
  have fO : g < w.heap.size := by omega
  generalize fz M = eb at *
  go_enter Tryz.func73, Tryz.ntmps73
  go_wp2_with (go_at_call 73; refine (HE.out _ (dY.out _)).mono ?_; rintro e w1 ⟨rfl, hb1⟩)
  exact bO3
theorem Ss {T : Nd} (hk : T.kind = 10) (ih : ∀ i, i < T.len → FX (T.kids i)) : FX T := by
 intro w v hi hf cY hr
 have hn := T.fine_len hf
 rw [jv, if_neg (by omega), if_neg (by omega), if_pos hk]
 have dY := aa (fun o => bO w o)
 by_cases h0 : T.len = 3
 ·obtain ⟨g, off, cap, rfl, hg, b7, aQ⟩ := xK hf hr ih cY (by omega)
  obtain ⟨u1, ed, iX⟩ := aQ 1 (by omega)
  obtain ⟨u2, iy, pX⟩ := aQ 2 (by omega)
  have fD := aa ed
  have mU := aa iy
  have tC := aa (fun W hb => (iX W hb).1)
  have Jt := aa (fun W hb => (pX W hb).1)
  unfold Nd.val
  rw [hk]
  rw [h0] at *
  have e2 : decide (3 = 3) = true := by decide
  rw [e2, Bool.true_and]
  clear hr ih ed iX iy pX aQ hf hk e2
  generalize T.kids 1 = M1 at *
  generalize T.kids 2 = M2 at *
  obtain ⟨gG, gB, gE, gA⟩ := fD.out _ (dY.out (.cells #[.int .i64 10, .int .i64 T.num, .string T.name, .slice (some ⟨g, off, none⟩) 3 cap] 25))
  simp only [Nat.one_mul] at gG gB gE gA
  have fO : g < w.heap.size := by omega
  cases hb1 : fz M1 with
  |false =>
   rw [hb1] at tC
   clear hb1
   go_enter Tryz.func73, Tryz.ntmps73
   go_wp2_with (go_at_call 73; refine (tC.out _ (dY.out _)).mono ?_; rintro e w1 ⟨rfl, hb1⟩)
   exact bO3
  |true =>
   rw [hb1] at tC
   clear hb1
   have P1 : Hid True := trivial
   generalize fz M2 = eb at *
   go_enter Tryz.func73, Tryz.ntmps73
   go_wp2_with (first
    |(clear P1; go_at_call 73; refine (tC.out _ (dY.out _)).mono ?_; rintro e w1 ⟨rfl, hb1⟩; have eJ := (dY.out _).trans (hb1.mono (by simp)); obtain ⟨qM, qL, oi, oh⟩ := mU.out _ eJ; have k3 : w1.cell? ⟨w.heap.size, 3, none⟩ = some (.slice (some ⟨g, off, none⟩) 3 cap) := (hb1.cell (p := ⟨w.heap.size, 3, none⟩) (by simp)).trans (by simp); have Bz := aa eJ; clear eJ hb1)
    |(go_at_call 73; refine (Jt.out _ Bz.out).mono ?_; rintro e w2 ⟨rfl, hb2⟩))
   go_ret
   exact ⟨rfl, Bz.out.trans (hb2.mono Bz.out.size)⟩
 ·obtain ⟨a, cap, rfl, b7, hq⟩ := ar.1 hr
  unfold Nd.val
  have e2 : decide (T.len = 3) = false := decide_eq_false h0
  have e3 : ((T.len : Int) == 3) = false := bn (by omega)
  exact bO0
theorem Sr {T : Nd} (hk : T.kind = 11) (ih : ∀ i, i < T.len → FX (T.kids i)) : FX T := by
 intro w v hi hf cY hr
 have hn := T.fine_len hf
 rw [jv, if_neg (by omega), if_neg (by omega), if_neg (by omega), if_pos hk]
 have dY := aa (fun o => bO w o)
 by_cases h0 : T.len = 1
 ·obtain ⟨g, off, cap, rfl, hg, b7, aQ⟩ := xK hf hr ih cY (by omega)
  obtain ⟨u1, ed, iX⟩ := aQ 0 (by omega)
  have fD := aa ed
  have tC := aa (fun W hb => (iX W hb).2)
  unfold Nd.val
  rw [hk]
  rw [h0] at *
  have e2 : decide (1 = 1) = true := by decide
  rw [e2, Bool.true_and]
  clear hr ih ed iX aQ hf hk e2
  generalize T.kids 0 = M1 at *
  obtain ⟨gG, gB, gE, gA⟩ := fD.out _ (dY.out (.cells #[.int .i64 11, .int .i64 T.num, .string T.name, .slice (some ⟨g, off, none⟩) 1 cap] 25))
  simp only [Nat.zero_mul, Nat.add_zero] at gG gB gE gA
  have fO : g < w.heap.size := by omega
  generalize cL M1 = eb at *
  have Q8 : ∀ (x : Bool) (w : World), (Op.unary .not (.bool x)).run Tryz.prog w = .ok (.bool (!x)) w := fun _ _ => rfl
  go_enter Tryz.func73, Tryz.ntmps73
  go_wp2_with (go_at_call 96; refine (tC.out _ (dY.out _)).mono ?_; rintro e w1 ⟨rfl, hb1⟩)
  exact bO3
 ·obtain ⟨a, cap, rfl, b7, hq⟩ := ar.1 hr
  unfold Nd.val
  have e2 : decide (T.len = 1) = false := decide_eq_false h0
  have e3 : ((T.len : Int) == 1) = false := bn (by omega)
  exact bO0
theorem KC (T : Nd) (ih : ∀ i, i < T.len → FX (T.kids i)) : FX T := by
 by_cases h4 : T.kind = 4
 ·exact en_4 h4 ih
 by_cases rW : T.kind = 10
 ·exact Ss rW ih
 by_cases mS : T.kind = 11
 ·exact Sr mS ih
 intro w v hi hf cY hr
 rw [jv]
 have dY := aa (fun o => bO w o)
 obtain ⟨a, cap, rfl, b7, hq⟩ := ar.1 hr
 unfold Nd.val
 by_cases rV : T.kind = 12
 ·rw [if_pos (.inl rV), rV]
  exact bO1
 by_cases xy : T.kind = 21
 ·rw [if_pos (.inr xy), xy]
  exact bO1
 rw [if_neg (by omega), if_neg h4, if_neg rW, if_neg mS]
 have q4 : (T.kind == 4) = false := bn h4
 have q10 : (T.kind == 10) = false := bn rW
 have q11 : (T.kind == 11) = false := bn mS
 have q12 : (T.kind == 12) = false := bn rV
 have q21 : (T.kind == 21) = false := bn xy
 clear hr hq ih h4 rW mS rV xy
 generalize T.kind = tk at *
 exact bO4
theorem MT (T : Nd) : FX T := by
 induction T with
 |nil => exact KC _ fun i hi => absurd hi (Nat.not_lt_zero i)
 |mk k n s len kids ih => exact KC _ fun i _ => ih i
def ef (K : SK) (w : World) (r : Int) : World := ((w.setCell ⟨K.cb, 7, none⟩ (.slice none 0 0)).setCell ⟨K.cb, 8, none⟩ (.int .i64 1)).setCell ⟨K.cb, 9, none⟩ (.int .i64 r)
theorem ju (K : SK) (w : World) (r : Int) (k : Nat) (h : k ≠ K.cb) : (ef K w r).heap[k]? = w.heap[k]? := by
 unfold ef
 rw [Below.heap_setCell _ ⟨K.cb, 9, none⟩ _ k h, Below.heap_setCell _ ⟨K.cb, 8, none⟩ _ k h, Below.heap_setCell _ ⟨K.cb, 7, none⟩ _ k h]
theorem jt (K : SK) (w : World) (r : Int) : (ef K w r).heap.size = w.heap.size := by simp [ef, World.setCell]
theorem td (K : SK) (w : World) (r : Int) (h : K.lo ≤ K.cb) : Below K.lo w (ef K w r) :=
 ⟨by simp [ef, World.setCell], by simp [ef, World.setCell], by simp [ef, World.setCell], by rw [jt]; exact Nat.le_refl _, fun k hk => ju K w r k (by omega)⟩
theorem SS.fresh {K : SK} {w0 : World} {ay : Option Nat} {E : Sc} {X : List Int} {ret loops outs : Int} {w : World} (h : SS K w0 ay (.ok (E, X)) ret loops outs w) (r : Int) : SS K (ef K w r) none (.ok ([[]], X)) r loops outs (ef K w r) := by
 obtain ⟨vv, code, place, deep, zs, vs, h1, ⟨a1, a2, a3, a4, a5, a6, a7, a8⟩, h3⟩ := h.is
 refine ⟨h.ok, ⟨.slice none 0 0, code, place, 1, zs, [], ?_, ⟨a1, a2, rfl, a4, a5, rfl, Nat.zero_le _, by simp⟩, .inl rfl⟩, Kept.refl _ _⟩
 refine ⟨?_, ?_, h1.len, World.ownsRow_nil _ _ _ _⟩
 ·unfold ef
  rw [heap_setCell_same _ K.cb 9 _ _ _ (heap_setCell_same _ K.cb 8 _ _ _ (heap_setCell_same _ K.cb 7 _ _ _ h1.blk))]
  rfl
 ·rw [ju K w r K.tb (fun e => h.ok.ne e.symm)]; exact h1.typ
theorem Ay {K : SK} {w0 : World} {ay : Option Nat} {E : Sc} {X : List Int} {ret loops outs : Int} {w w1 : World} {T : Nd} {v u : Value} {p : Nat} {t : TypeId} (h : SS K w0 ay (.ok (E, X)) ret loops outs w) (r : Int)
  (hb : Below (w.alloc (.cells #[.int .i64 T.kind, .int .i64 T.num, .string T.name, v] t)).heap.size (w.alloc (.cells #[.int .i64 T.kind, .int .i64 T.num, .string T.name, v] t)) w1)
  (ha : JM w1 (w.alloc (.cells #[.int .i64 T.kind, .int .i64 T.num, .string T.name, v] t)).heap.size u T.len (fun i => (aV T p i : Nat))) :
  SS K (ef K w1 r) none (.ok ([[]], X)) r loops outs (ef K w1 r) ∧ SGo K w (ef K w1 r) none w.heap.size T v u p := by
 have h1 := (h.alloc (.cells #[.int .i64 T.kind, .int .i64 T.num, .string T.name, v] t)).calm hb
 have bB := h.lt
 have yX := h.ok.cl
 have bS : (w.alloc (.cells #[.int .i64 T.kind, .int .i64 T.num, .string T.name, v] t)).heap.size = w.heap.size + 1 := by simp
 have az := hb.size
 rw [bS] at az
 have eJ : Below K.lo w w1 := (h.box _).trans (hb.mono (by rw [bS]; omega))
 have hbf : Below K.lo w (ef K w1 r) := eJ.trans (td K w1 r yX)
 have cM : ∀ W σ r' l o, SS K (ef K w1 r) none σ r' l o W → ∀ k, w.heap.size ≤ k → k < w1.heap.size → W.heap[k]? = w1.heap[k]? := by
  intro W σ r' l o hW k iI jR
  rw [hW.keep (k := k) (by rw [jt]; exact jR) (by omega) (by omega) (fun e => by cases e)]
  exact ju K w1 r k (by omega)
 refine ⟨h1.fresh r, hbf, ?_, ?_, ?_⟩
 ·intro W σ r l o hW
  have e1 := cM W σ r l o hW w.heap.size lr (by omega)
  have e2 : w1.heap[w.heap.size]? = some (.cells #[.int .i64 T.kind, .int .i64 T.num, .string T.name, v] t) := (hb.block _ (by rw [bS]; omega)).trans (heap_alloc_new w _)
  rw [e2] at e1
  refine ⟨?_, ?_, ?_, ?_⟩ <;> simp [World.cell?, e1]
 ·have k_0 := kk
  exact bO5
 ·intro W σ r l o hW
  exact hbf.trans (hW.below (by rw [jt]; omega) (fun k hk => by cases hk))
theorem Lp {K : SK} {w0 : World} {ay : Option Nat} {σ : CR CS} {ret loops outs : Int} {w w1 : World} {T : Nd} {u : Value} {p : Nat} (h : SS K w0 ay σ ret loops outs w) (hb : Below w.heap.size w w1) (ha : JM w1 w.heap.size u T.len (fun i => (aV T p i : Nat))) :
  ∃ own1, SS K w1 own1 σ ret loops outs w1 ∧ (∀ σ' r l o W, SS K w1 own1 σ' r l o W → SS K w0 ay σ' r l o W) ∧
   (T.len ≠ 0 → ∃ g off cap, u = .slice (some ⟨g, off, none⟩) T.len cap ∧ (T.len ≤ cap ∧ cap ≤ 9223372036854775807) ∧ ∀ W σ r l o, SS K w1 own1 σ r l o W → ∀ i, i < T.len → W.cell? ⟨g, off + i, none⟩ = some (.int .i64 (aV T p i : Nat))) ∧
   ∀ W σ r l o, SS K w1 own1 σ r l o W → Below K.lo w W := by
 have h1 := h.calm hb
 obtain ⟨vv, code, place, deep, zs, vs, kD, _⟩ := h.is
 obtain ⟨own1, g1, g2, g3, g4⟩ := h1.restart
 have bB := h.lt
 have yX := h.ok.cl
 have az := hb.size
 have eJ : Below K.lo w w1 := hb.mono (by omega)
 have cg : ∀ k, own1 = some k → k < w.heap.size := by
  intro k hk
  obtain ⟨KW, c', p', d', z', s', q1, q2, q3⟩ := g1.is
  rcases q3 with q3 | ⟨j, q3, q4⟩
  ·have e1 := q1.blk
   rw [hb.block K.cb bB.1, kD.blk] at e1
   have e3 : KW = vv := by
    injection e1 with e1
    injection e1 with e1
    have := congrArg (fun a : Array Value => a[7]?) e1
    simpa [SK.cells] using this.symm
   rw [e3, hk] at q3
   exact (kD.var.lt k q3).2
  ·have := (q1.var.lt j q3).2; omega
 have cM : ∀ W σ r l o, SS K w1 own1 σ r l o W → ∀ k, w.heap.size ≤ k → k < w1.heap.size → W.heap[k]? = w1.heap[k]? := by
  intro W σ r l o hW k iI jR
  exact hW.keep jR (by omega) (by omega) (fun e => by have := cg k e.symm; omega)
 refine ⟨own1, g1, g4, ?_, ?_⟩
 ·have k_1 := kk
  exact bO5
 ·intro W σ r l o hW
  refine eJ.trans (hW.below (by omega) (fun k hk => ?_))
  have := (g2 k hk).1
  have := h.ok.cu
  omega
theorem Ax {K : SK} {w w1 : World} {own1 : Option Nat} {T : Nd} {v u : Value} {p : Nat} {lo : Nat} (hE : SEnv K w) (hN : SNd K w T v) (ha : JM w1 lo u T.len (fun i => (aV T p i : Nat)))
  (Ih : T.len ≠ 0 → ∃ g off cap, u = .slice (some ⟨g, off, none⟩) T.len cap ∧ (T.len ≤ cap ∧ cap ≤ 9223372036854775807) ∧ ∀ W σ r l o, SS K w1 own1 σ r l o W → ∀ i, i < T.len → W.cell? ⟨g, off + i, none⟩ = some (.int .i64 (aV T p i : Nat)))
  (mi : ∀ W σ r l o, SS K w1 own1 σ r l o W → Below K.lo w W) : ∃ us, mq K w1 own1 T p 0 T.len v u us := by
 obtain ⟨a, cap, hv, hc, _⟩ := ar.1 hN.row
 subst hv
 by_cases h0 : T.len = 0
 ·obtain ⟨a', ca, hu, ed, iy, _⟩ := ha
  refine ⟨fun _ => .tuple #[], ⟨⟨a, cap, rfl, hc.1, hc.2, a', ca, hu, ed, iy, .inl h0⟩, fun W σ r l o hW => hE.later (mi W σ r l o hW), fun W σ r l o hW i hi => by omega⟩⟩
 ·obtain ⟨g, off, l5, hv, iW, b7, aQ⟩ := cN hN.row h0
  injection hv with e1 e2 e3
  subst e1
  subst e3
  obtain ⟨ga, oa, ca, rfl, nI, fg⟩ := Ih h0
  refine ⟨fun i => if h : i < T.len then (aQ i h).choose else .tuple #[], ⟨⟨_, cap, rfl, b7.1, b7.2, _, ca, rfl, nI.1, nI.2, .inr ⟨g, off, ga, oa, rfl, rfl, fun W σ r l o hW i hi => ?_⟩⟩, fun W σ r l o hW => hE.later (mi W σ r l o hW), fun W σ r l o hW i hi => ?_⟩⟩
  ·have hx := (aQ i hi).choose_spec.1 W (mi W σ r l o hW)
   simp only [Nat.zero_add, hi, dif_pos]
   exact ⟨fg W σ r l o hW i hi, hx⟩
  ·have hx := (aQ i hi).choose_spec.2
   simp only [Nat.zero_add, hi, dif_pos]
   exact (hN.kid hi hx).later (mi W σ r l o hW)
theorem ie {σ : Type} {f : Nat → σ → CR σ} {s : σ} {j : Nat} {e : Int × Nat} (h : forN f j s = .error e) : ∀ {n : Nat}, j ≤ n → forN f n s = .error e := by
 intro n hn
 induction hn with
 |refl => exact h
 |step _ ih => simp only [forN, ih]; rfl
end Go.Proofs.YteaocammohcgoaaGreatDoor
