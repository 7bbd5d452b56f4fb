import Derived.Test.YtkfbbdhidecefaaDoorUTC2
import Derived.Test.YtkfbbdhidecefaaDoorUTD
set_option linter.unusedVariables false
set_option maxHeartbeats 16000000
set_option maxRecDepth 100000
namespace Go.Proofs.YtkfbbdhidecefaaDoor
open Go.RowKit
variable {G : Prop}
theorem bj0 (h : G := by
 induction T with
 |nil => exact step .nil fun i hi => absurd hi (Nat.not_lt_zero _)
 |mk k n s len kids ih => exact step _ fun i _ => ih i) : G := h
theorem bj1 (h : G := by
 rw [hl] at hw hM
 simp only [ag, Nat.add_mul] at hw hM
 simp only [List.length_append, List.length_cons, List.length_nil]
 omega) : G := h
theorem bj2 (h : G := by
 rw [aG] at ax
 simp [aJ, h4, h5, h6, h7, h8, h9, lA, rM, tM, CG, CF, vN, wb, AD, AC, AB, yL] at ax) : G := h
def Nd.wt (T : Nd) : Nat := T.cost + T.size
theorem oK (f g : Nat → Nat) (n : Nat) : ag (fun i => f i + g i) n = ag f n + ag g n := by
 induction n with
 |zero => rfl
 |succ n ih => simp only [ag, ih]; omega
theorem ni {f g : Nat → Nat} {n : Nat} (h : ∀ i, i < n → f i ≤ g i) : ag f n ≤ ag g n := by
 induction n with
 |zero => exact Nat.le_refl _
 |succ n ih => have := ih fun i hi => h i (by omega); have := h n (by omega); simp only [ag]; omega
theorem ik (c : Nat) (f : Nat → Nat) (n : Nat) : ag (fun i => c * f i) n = c * ag f n := by
 induction n with
 |zero => rfl
 |succ n ih => simp only [ag, ih, Nat.mul_add]
theorem tV (T : Nd) : T.wt = T.name.size + T.len + 1 + ag (fun i => (T.kids i).wt) T.len := by
 have := oK (fun i => (T.kids i).cost) (fun i => (T.kids i).size) T.len
 have e : ag (fun i => (T.kids i).wt) T.len = ag (fun i => (T.kids i).cost + (T.kids i).size) T.len := rfl
 rw [e, this]
 unfold Nd.wt
 rw [T.cost_eq, T.size_eq]; omega
theorem oG (f : Nat → List UInt8) (n : Nat) : (aX f n).length = ag (fun i => (f i).length) n := by
 induction n with
 |zero => rfl
 |succ n ih => simp only [aX, ag, List.length_append, ih]
theorem Gd (b : Bool) (t : List UInt8) : (zk b t).length ≤ t.length + 2 := by
 cases b <;> simp [zk]
theorem qQ (s : ByteArray) : s.data.toList.length = s.size := rfl
theorem gT (T : Nd) : T.eOk = true → ∀ l, ((aO T).ex l).length + 12 ≤ 100 * T.wt := by
 have step : ∀ T : Nd, (∀ i, i < T.len → (T.kids i).eOk = true → ∀ l, ((aO (T.kids i)).ex l).length + 12 ≤ 100 * (T.kids i).wt) → T.eOk = true → ∀ l, ((aO T).ex l).length + 12 ≤ 100 * T.wt := by
  intro T ih ax l
  have hw := tV T
  by_cases Bx : T.kind = 22
  ·rw [rh T Bx]
   have := vr 20 T.num.toNat
   omega
  by_cases ym : T.kind = 23
  ·rw [re T ym]
   split <;> simp <;> omega
  by_cases AA : T.kind = 24
  ·rw [rb T AA, qQ]; omega
  by_cases yl : T.kind = 25
  ·rw [ra T yl]
   have h := vp yl ax
   have hs : ag (fun i => ((if i = 0 then [] else [44, 32]) ++ (aO (T.kids i)).ex 1).length) T.len ≤ ag (fun i => 100 * (T.kids i).wt) T.len := by
    refine ni fun i hi => ?_
    have := ih i hi (h i hi) 1
    rw [List.length_append]
    split <;> simp <;> omega
   rw [ik] at hs
   simp only [List.length_append, List.length_cons, List.length_nil, oG, qQ] at hs ⊢
   omega
  by_cases xn : T.kind = 26
  ·rw [oV T xn]
   have h := rN xn ax
   by_cases h0 : T.len = 0
   ·rw [if_pos h0]; simp; omega
   ·have hl : T.len = 1 := by omega
    have := ih 0 (by omega) (h.2 0 (by omega)) 1
    rw [if_neg h0]
    rw [hl] at hw
    simp only [ag] at hw
    simp; omega
  by_cases yK : T.kind = 27
  ·obtain ⟨hl, he⟩ := vo yK ax
   have i1 := ih 0 (by omega) he 1
   have i6 := ih 0 (by omega) he 6
   rw [q9 T yK, List.length_append, qQ]
   rw [hl] at hw
   simp only [ag] at hw
   split
   ·simp; omega
   ·omega
  by_cases Az : T.kind = 28
  ·obtain ⟨_, hl, lj, rL⟩ := vn Az ax
   have i0 := ih 0 (by omega) lj (lX T.name)
   have i1 := ih 1 (by omega) rL (lX T.name + 1)
   rw [q8 T Az]
   rw [hl] at hw
   simp only [ag] at hw
   have := Gd (decide (lX T.name < l)) ((aO (T.kids 0)).ex (lX T.name) ++ (32 :: (T.name.data.toList ++ 32 :: (aO (T.kids 1)).ex (lX T.name + 1))))
   simp only [List.length_append, List.length_cons, qQ] at this
   omega
  by_cases zZ : T.kind = 29
  ·obtain ⟨hl, he⟩ := vk zZ ax
   have i6 := ih 0 (by omega) he 6
   rw [q6 T zZ, List.length_append]
   rw [hl] at hw
   simp only [ag] at hw
   simp; omega
  rw [b8] at ax
  simp [cq, Bx, ym, AA, yl, xn, yK, Az, zZ] at ax
 exact bj0
def M0 (T : Nd) : Prop := ∀ d, ((aO T).st d).length + d + 12 ≤ 100 * T.wt + 4 * (T.size * (d + T.size))
theorem oJ (f : Nat → Nat) (c n : Nat) : ag (fun i => f i * c) n = ag f n * c := by
 induction n with
 |zero => simp [ag]
 |succ n ih => simp only [ag, ih, Nat.add_mul]
theorem mT (T : Nd) {i : Nat} (h : i < T.len) : (T.kids i).size + 1 ≤ T.size := by
 rw [T.size_eq]; have := nj (fun i => (T.kids i).size) h; omega
theorem N0 (T : Nd) {i : Nat} (h : i < T.len) : (T.kids i).wt + 1 ≤ T.wt := by
 rw [tV T]; have := nj (fun i => (T.kids i).wt) h; omega
theorem xK (d : Nat) : (bI d).length = d := by simp [bI]
theorem CZ (d : Nat) (t : List UInt8) : (aV d t).length = t.length + d + 3 := by simp [aV, bI]; omega
theorem J2 {T : Nd} (h : T.eOk = true) : ((aO T).ex 6).length + 12 ≤ 100 * T.wt := gT T h 6
theorem OI (K : Nd) (M d : Nat) (h : K.cOk = true) (hL : M0 (K.kids (K.len - 1))) (hM : d + K.size + 1 ≤ M) : ((aO K).cs d).length ≤ 100 * K.wt + 4 * (K.size * M) := by
 obtain ⟨hk, h3, ES, hs⟩ := xx h
 rw [yt K hk]
 have hb := hL d
 rw [kR _ ES, CZ] at hb
 have hl : 1 ≤ K.len := by rcases h3 with h | h | h <;> omega
 have bP := mT K (show K.len - 1 < K.len by omega)
 have hm : (K.kids (K.len - 1)).size * (d + (K.kids (K.len - 1)).size) ≤ K.size * M := Nat.mul_le_mul (by omega) (by omega)
 have hw := tV K
 simp only [List.length_append, List.length_cons, List.length_nil, xK]
 rcases h3 with ⟨a, b⟩ | ⟨a, b, c⟩ | ⟨a, b, c, e⟩
 ·have ht : (cw K.num K.name.data.toList (fun i => aO (K.kids i))).length = 7 := by rw [a]; rfl
  have := N0 K (show K.len - 1 < K.len by omega)
  omega
 ·have hx := gT _ c 1
  have h6 := J2 c
  have ht : (cw K.num K.name.data.toList (fun i => aO (K.kids i))).length ≤ 13 + K.name.size + ((aO (K.kids 0)).ex 6).length := by
   rw [a]; unfold cw
   rw [if_neg (by decide), if_pos rfl]
   simp only [List.length_append]
   split <;> simp <;> omega
  rw [b] at hw hb hm ⊢
  simp only [ag, Nat.reduceSub] at hw hb hm ⊢
  omega
 ·have hx := gT _ c 1
  have hy := gT _ e 1
  have ht : (cw K.num K.name.data.toList (fun i => aO (K.kids i))).length = 9 + ((aO (K.kids 0)).ex 1).length + ((aO (K.kids 1)).ex 1).length := by
   rw [a]; unfold cw
   rw [if_neg (by decide), if_neg (by decide)]
   simp; omega
  rw [b] at hw hb hm ⊢
  simp only [ag, Nat.reduceSub] at hw hb hm ⊢
  omega
theorem Ka (T : Nd) : (T.sOk = true → M0 T) ∧ ∀ i, i < T.len → (T.kids i).sOk = true → M0 (T.kids i) := by
 have step : ∀ T : Nd, (∀ i, i < T.len → ((T.kids i).sOk = true → M0 (T.kids i)) ∧ ∀ k, k < (T.kids i).len → ((T.kids i).kids k).sOk = true → M0 ((T.kids i).kids k)) → T.sOk = true → M0 T := by
  intro T ih ax d
  have hw := tV T
  have hS := T.size_eq
  have hM : T.size * (d + T.size) = (d + T.size) + ag (fun i => (T.kids i).size) T.len * (d + T.size) := by
   conv => lhs; rw [hS]
   rw [Nat.add_mul, Nat.one_mul, ← hS]
  have hm : ∀ i, i < T.len → (T.kids i).size * (d + (T.kids i).size) ≤ (T.kids i).size * (d + T.size) := fun i hi => Nat.mul_le_mul_left _ (by have := mT T hi; omega)
  by_cases h4 : T.kind = 4
  ·have hk := nL h4 ax
   rw [kR T h4, CZ, xX, oG]
   have hs : ag (fun i => (bI (d + 1) ++ ((aO (T.kids i)).st (d + 1) ++ [10])).length) T.len ≤ ag (fun i => 100 * (T.kids i).wt + 4 * ((T.kids i).size * (d + T.size))) T.len := by
    refine ni fun i hi => ?_
    have h1 := (ih i hi).1 (hk i hi) (d + 1)
    have h2 : (T.kids i).size * (d + 1 + (T.kids i).size) ≤ (T.kids i).size * (d + T.size) := Nat.mul_le_mul_left _ (by have := mT T hi; omega)
    simp only [List.length_append, xK, List.length_cons, List.length_nil]
    omega
   rw [oK, ik, ik, oJ] at hs
   omega
  by_cases h7 : T.kind = 7
  ·rw [sw T h7, List.length_append, qQ]
   split <;> simp <;> omega
  by_cases h8 : T.kind = 8
  ·obtain ⟨hl, e0, e1⟩ := xN h8 ax
   have := gT _ e0 1
   have := gT _ e1 1
   rw [su T h8]
   rw [hl] at hw
   simp only [ag] at hw
   simp; omega
  by_cases h9 : T.kind = 9
  ·obtain ⟨hl, e0⟩ := xM h9 ax
   have := gT _ e0 1
   rw [sr T h9]
   rw [hl] at hw
   simp only [ag] at hw
   omega
  by_cases wb : T.kind = 17
  ·rw [qL T wb]; simp; omega
  by_cases AD : T.kind = 18
  ·rw [qK T AD]; simp; omega
  by_cases tM : T.kind = 12
  ·have hl : T.len ≤ 1 := by
    have := ax; rw [aG, tM] at this; simp [aJ] at this
    rcases this.2 with h | h
    ·omega
    ·have := (pE h).1; omega
   rw [oM T tM]
   have h : T.len = 0 ∨ T.len = 1 := by omega
   rcases h with h | h
   ·rw [if_pos h]; simp; omega
   ·have := gT _ (uC tM ax 0 (by omega) rfl) 1
    rw [if_neg (by omega), if_neg (by omega)]
    rw [h] at hw
    simp only [ag] at hw
    simp; omega
  by_cases h5 : T.kind = 5
  ·have hl : T.len = 1 := by
    have := ax; rw [aG, h5] at this; simp [aJ] at this; exact (pE this.2).1
   have := gT _ (xP h5 ax 0 (by omega) rfl) 1
   rw [sz T h5, if_neg (by omega)]
   rw [hl] at hw
   simp only [ag] at hw
   simp; omega
  by_cases h6 : T.kind = 6
  ·have hl : T.len = 1 := by
    have := ax; rw [aG, h6] at this; simp [aJ] at this; exact (pE this.2).1
   have := gT _ (xO h6 ax 0 (by omega) rfl) 1
   rw [sy T h6, if_neg (by omega)]
   rw [hl] at hw
   simp only [ag] at hw
   simp; omega
  by_cases CG : T.kind = 13
  ·have hl : T.len = 1 := by
    have := ax; rw [aG, CG] at this; simp [aJ] at this; exact (lL this.2).1
   have := gT _ (uz CG ax 0 (by omega) rfl) 1
   rw [qO T CG, if_neg (by omega)]
   rw [hl] at hw
   simp only [ag] at hw
   simp; omega
  by_cases CF : T.kind = 14
  ·have hl : T.len = 1 := by
    have := ax; rw [aG, CF] at this; simp [aJ] at this; exact (lL this.2).1
   have := gT _ (uy CF ax 0 (by omega) rfl) 1
   rw [qN T CF, if_neg (by omega)]
   rw [hl] at hw
   simp only [ag] at hw
   simp; omega
  by_cases AC : T.kind = 19
  ·have hl : T.len = 1 := by
    have := ax; rw [aG, AC] at this; simp [aJ] at this; exact (pE this.2).1
   have := gT _ (uw AC ax 0 (by omega) rfl) 1
   rw [qJ T AC, if_neg (by omega)]
   rw [hl] at hw
   simp only [ag] at hw
   simp; omega
  by_cases AB : T.kind = 20
  ·have hl : T.len = 1 := by
    have := ax; rw [aG, AB] at this; simp [aJ] at this; exact (pE this.2).1
   have := gT _ (ur AB ax 0 (by omega) rfl) 1
   rw [qI T AB, if_neg (by omega)]
   rw [hl] at hw
   simp only [ag] at hw
   simp; omega
  by_cases yL : T.kind = 21
  ·have hl : T.len = 1 := by
    have := ax; rw [aG, yL] at this; simp [aJ] at this; exact (pE this.2).1
   have := gT _ (uo yL ax 0 (by omega) rfl) 1
   rw [qH T yL, if_neg (by omega)]
   rw [hl] at hw
   simp only [ag] at hw
   simp; omega
  by_cases lA : T.kind = 10
  ·obtain ⟨hl, e0, k1, k2⟩ := ov lA ax
   have h0 := gT _ e0 1
   have h1 := (ih 1 (by omega)).1 k1.2 d
   rw [kR _ k1.1] at h1
   have m1 := hm 1 (by omega)
   rw [lz T lA]
   rcases hl with hl | hl
   ·rw [if_neg (by omega)]
    exact bj1
   ·have h2 := (ih 2 (by omega)).1 (k2 hl).2 d
    have m2 := hm 2 (by omega)
    rw [if_pos hl]
    exact bj1
  by_cases rM : T.kind = 11
  ·rw [oN T rM]
   rcases pA rM ax with ⟨hl, k0⟩ | ⟨hl, e0, k1⟩
   ·have h1 := (ih 0 (by omega)).1 k0.2 d
    rw [kR _ k0.1] at h1
    have m1 := hm 0 (by omega)
    rw [hl] at hw hM ⊢
    simp only [ag, Nat.add_mul, Nat.reduceSub] at hw hM ⊢
    simp only [List.length_append, List.length_cons, List.length_nil, Nat.reduceEqDiff, if_false]
    omega
   ·have h0 := gT _ e0 1
    have h1 := (ih 1 (by omega)).1 k1.2 d
    rw [kR _ k1.1] at h1
    have m1 := hm 1 (by omega)
    rw [hl] at hw hM ⊢
    simp only [ag, Nat.add_mul, Nat.reduceSub] at hw hM ⊢
    simp only [List.length_append, List.length_cons, List.length_nil, if_true]
    omega
  by_cases vN : T.kind = 15
  ·have hc := ux vN ax
   rw [qM T vN]
   have hs : ag (fun i => ((aO (T.kids i)).cs d).length) T.len ≤ ag (fun i => 100 * (T.kids i).wt + 4 * ((T.kids i).size * (d + T.size))) T.len := by
    refine ni fun i hi => ?_
    obtain ⟨_, h3, ES, gS⟩ := xx (hc i hi)
    exact OI _ _ d (hc i hi) ((ih i hi).2 _ (by rcases h3 with h | h | h <;> omega) gS) (by have := mT T hi; omega)
   rw [oK, ik, ik, oJ] at hs
   simp only [List.length_append, List.length_cons, List.length_nil, oG, xK]
   omega
  exact bj2
 have all : ∀ T : Nd, (T.sOk = true → M0 T) ∧ ∀ i, i < T.len → (T.kids i).sOk = true → M0 (T.kids i) := by
  intro T
  induction T with
  |nil => exact ⟨step .nil fun i hi => absurd hi (Nat.not_lt_zero _), fun i hi => absurd hi (Nat.not_lt_zero _)⟩
  |mk k n s len kids ih => exact ⟨step _ fun i _ => ih i, fun i _ => (ih i).1⟩
 exact all T
theorem yT (n : Int) : (fV n).length ≤ 8 := by
 unfold fV; repeat' split
 all_goals simp
theorem Gc (K : Nd) (h : fR K = true) : (pH K).length + 10 ≤ 100 * K.wt + 4 * (K.size * K.size) := by
 obtain ⟨_, hL, _, hk, hs⟩ := yn h
 obtain ⟨m, hm⟩ : ∃ m, K.len = m + 1 := ⟨K.len - 1, by omega⟩
 have hw := tV K
 have bP := mT K (show K.len - 1 < K.len by omega)
 have hb := (Ka (K.kids (K.len - 1))).1 hs 0
 rw [kR _ hk] at hb
 have hq : (K.kids (K.len - 1)).size * (0 + (K.kids (K.len - 1)).size) ≤ K.size * K.size := Nat.mul_le_mul (by omega) (by omega)
 have hp : ag (fun i => (lO K i).length) m ≤ ag (fun i => 100 * (K.kids i).wt) m := by
  refine ni fun i hi => ?_
  have := tV (K.kids i)
  have := yT (K.kids i).num
  unfold lO
  simp only [List.length_append, List.length_cons, qQ]
  split <;> simp <;> omega
 rw [ik] at hp
 have ht := yT K.num
 have hi : (if K.num = 0 then [] else fV K.num ++ [32] : List UInt8).length ≤ 9 := by
  split
  ·simp
  ·simp; omega
 rw [ve]
 rw [hm] at hw hb hq ⊢
 simp only [ag, Nat.add_sub_cancel, Nat.zero_add] at hw hb hq ⊢
 simp only [List.length_append, List.length_cons, List.length_nil, oG, qQ]
 omega
theorem Ht (T : Nd) (h : gg T = true) (hc : T.cost ≤ 1048576) : (ls T).length ≤ 1099511627776 := by
 have hf := ug h
 have hz : T.size ≤ 600 := by
  unfold gg at h
  simp only [Bool.and_eq_true, decide_eq_true_eq] at h
  exact h.1.1.1.1
 have hw := tV T
 have hS := T.size_eq
 have hwt : T.wt = T.cost + T.size := rfl
 have hs : ag (fun i => ((if i = 0 then [] else [10]) ++ pH (T.kids i)).length) T.len ≤ ag (fun i => 100 * (T.kids i).wt + 4 * ((T.kids i).size * 600)) T.len := by
  refine ni fun i hi => ?_
  have h1 := Gc _ (hf i hi)
  have h2 : (T.kids i).size * (T.kids i).size ≤ (T.kids i).size * 600 := Nat.mul_le_mul_left _ (by have := mT T hi; omega)
  rw [List.length_append]
  split <;> simp <;> omega
 rw [oK, ik, ik, oJ] at hs
 unfold ls
 rw [oG]
 omega
theorem nN {s : ByteArray} (h : ck s = true) : mu s.data.toList ≤ 41 := by
 unfold ck iy at h
 simp only [Bool.and_eq_true, decide_eq_true_eq] at h
 obtain ⟨⟨⟨_, h1⟩, _, h2⟩, _⟩ := h
 have hw := nb s.data.toList
 rw [h2] at hw
 have e : s.data.toList.take s.size = s.data.toList := List.take_of_length_le lr
 rw [e] at hw
 have := Gn hw
 have hs : s.data.toList.length = s.size := rfl
 omega
theorem uL (f : Nat → List UInt8) (g : Nat → Nat) (n : Nat) (h : ∀ i, i < n → mu (f i) ≤ 100 * g i) : mu (aX f n) ≤ 100 * ag g n := by
 induction n with
 |zero => exact Nat.le_refl _
 |succ n ih =>
  simp only [aX, ag]
  have h1 := aL (aX f n) (f n)
  have h2 := ih fun i hi => h i (by omega)
  have h3 := h n (by omega)
  omega
theorem tI (d : Nat) : mu (bI d) = 0 := by
 unfold bI
 induction d with
 |zero => rfl
 |succ d ih => rw [List.replicate_succ, lP, ih]; rfl
theorem Gq (b : Bool) (t : List UInt8) : mu (zk b t) ≤ mu t + 4 := by
 cases b with
 |false => show mu t ≤ _; omega
 |true =>
  show mu ([40] ++ (t ++ [41])) ≤ _
  have h1 := aL [40] (t ++ [41])
  have h2 := aL t [41]
  have e1 : mu [40] = 2 := by decide
  have e2 : mu [41] = 2 := by decide
  omega
theorem uK (c : UInt8) (r : List UInt8) : mu (c :: r) ≤ 2 + mu r := by
 have := aL [c] r
 have h := A7 [c]
 simp only [List.length_cons, List.length_nil, List.cons_append, List.nil_append] at this h
 omega
theorem rC {c : UInt8} (r : List UInt8) (h : b9 c.toNat = true) : mu (c :: r) = mu r := by rw [lP, h]; simp
theorem Gr {s : ByteArray} (h : 0 < lX s) : s.size ≤ 2 := by
 have aN : ∀ k, k ≤ 5 → ∀ g ∈ bJ k, g.size ≤ 2 := by
  intro k hk g hg
  rcases (by omega : k = 0 ∨ k = 1 ∨ k = 2 ∨ k = 3 ∨ k = 4 ∨ k = 5) with rfl | rfl | rfl | rfl | rfl | rfl <;> simp [bJ] at hg
  ·subst hg; decide
  ·subst hg; decide
  ·rcases hg with rfl | rfl | rfl | rfl | rfl | rfl <;> decide
  ·rcases hg with rfl | rfl <;> decide
  ·rcases hg with rfl | rfl | rfl <;> decide
 unfold lX at h
 split at h
 ·rename_i h1; exact aN 1 (by omega) s ((lq _ _).1 h1)
 split at h
 ·rename_i h1; exact aN 2 (by omega) s ((lq _ _).1 h1)
 split at h
 ·rename_i h1; exact aN 3 (by omega) s ((lq _ _).1 h1)
 split at h
 ·rename_i h1; exact aN 4 (by omega) s ((lq _ _).1 h1)
 split at h
 ·rename_i h1; exact aN 5 (by omega) s ((lq _ _).1 h1)
 ·omega
theorem zn {s : ByteArray} (h : s.size ≤ 2) : mu s.data.toList ≤ 4 := by
 have := A7 s.data.toList
 have hs : s.data.toList.length = s.size := rfl
 omega
theorem Jf {T : Nd} (hk : T.kind = 27) (h : T.eOk = true) : T.name.size ≤ 2 := by
 rw [b8, hk] at h
 simp only [cq, Int.reduceEq, if_true, if_false, Bool.and_eq_true, Bool.or_eq_true, beq_iff_eq] at h
 have e : T.name.toList.length = T.name.size := by rw [ByteArray.toList_eq]; rfl
 rcases h.2.1 with h | h <;> rw [h] at e <;> simp at e <;> omega
theorem L4 {T : Nd} (hk : T.kind = 24 ∨ T.kind = 25) (h : T.eOk = true) : ck T.name = true := by
 rw [b8] at h
 rcases hk with hk | hk <;> rw [hk] at h <;> simp [cq] at h <;> exact h.2.1
theorem A5 {T : Nd} (hk : T.kind = 5 ∨ T.kind = 6 ∨ T.kind = 7) (h : T.sOk = true) : ck T.name = true := by
 rw [aG] at h
 rcases hk with hk | hk | hk <;> rw [hk] at h <;> simp [aJ] at h
 ·exact h.1.1.2
 ·exact h.1.1.2
 ·exact h.1.2
def EBd (T : Nd) : Prop := ∀ l, mu ((aO T).ex l) + 12 ≤ 100 * T.size
theorem rO (T : Nd) : T.eOk = true → EBd T := by
  have step : ∀ T : Nd, (∀ i, i < T.len → (T.kids i).eOk = true → EBd (T.kids i)) → T.eOk = true → EBd T := by
    intro T ih ax l
    have hS := T.size_eq
    by_cases Bx : T.kind = 22
    · rw [rh T Bx]
      have := vr 20 T.num.toNat
      have := A7 (gQ 20 T.num.toNat)
      omega
    by_cases ym : T.kind = 23
    · rw [re T ym]
      have e1 : mu [102, 97, 108, 115, 101] = 6 := by decide
      have e2 : mu [116, 114, 117, 101] = 5 := by decide
      split <;> omega
    by_cases AA : T.kind = 24
    · rw [rb T AA]
      have := nN (L4 (.inl AA) ax)
      omega
    by_cases yl : T.kind = 25
    · rw [ra T yl]
      have h := vp yl ax
      have hn := nN (L4 (.inr yl) ax)
      have hs := uL (fun i => (if i = 0 then [] else [44, 32]) ++ (aO (T.kids i)).ex 1) (fun i => (T.kids i).size) T.len (fun i hi => by
        have h1 := ih i hi (h i hi) 1
        have h2 := aL (if i = 0 then [] else [44, 32]) ((aO (T.kids i)).ex 1)
        have h3 : mu (if i = 0 then [] else [44, 32]) ≤ 2 := by split <;> decide
        show mu ((if i = 0 then [] else [44, 32]) ++ (aO (T.kids i)).ex 1) ≤ _
        omega)
      have a1 := aL T.name.data.toList (40 :: (aX (fun i => (if i = 0 then [] else [44, 32]) ++ (aO (T.kids i)).ex 1) T.len ++ [41]))
      have a2 := uK 40 (aX (fun i => (if i = 0 then [] else [44, 32]) ++ (aO (T.kids i)).ex 1) T.len ++ [41])
      have a3 := aL (aX (fun i => (if i = 0 then [] else [44, 32]) ++ (aO (T.kids i)).ex 1) T.len) [41]
      have e1 : mu [41] = 2 := by decide
      omega
    by_cases xn : T.kind = 26
    · rw [oV T xn]
      have h := rN xn ax
      have e0 : mu [109, 97, 107, 101, 40, 99, 104, 97, 110, 32, 105, 110, 116] = 16 := by decide
      have e1 : mu [41] = 2 := by decide
      have a1 := aL [109, 97, 107, 101, 40, 99, 104, 97, 110, 32, 105, 110, 116] ((if T.len = 0 then [] else [44, 32] ++ (aO (T.kids 0)).ex 1) ++ [41])
      have a2 := aL (if T.len = 0 then [] else [44, 32] ++ (aO (T.kids 0)).ex 1) [41]
      by_cases h0 : T.len = 0
      · rw [if_pos h0] at a1 a2 ⊢
        have e2 : mu ([] : List UInt8) = 0 := rfl
        omega
      · have hl : T.len = 1 := by omega
        have := ih 0 (by omega) (h.2 0 (by omega)) 1
        rw [if_neg h0] at a1 a2 ⊢
        have a3 := aL [44, 32] ((aO (T.kids 0)).ex 1)
        have e3 : mu [44, 32] = 2 := by decide
        rw [hl] at hS
        simp only [ag] at hS
        omega
    by_cases yK : T.kind = 27
    · obtain ⟨hl, he⟩ := vo yK ax
      have i1 := ih 0 (by omega) he 1
      have i6 := ih 0 (by omega) he 6
      have hn := zn (Jf yK ax)
      rw [q9 T yK]
      rw [hl] at hS
      simp only [ag] at hS
      have a0 : mu (if T.name.data.toList = [45] ∧ (T.kids 0).kind = 27 ∧ (T.kids 0).name.data.toList = [45] then 40 :: ((aO (T.kids 0)).ex 1 ++ [41]) else (aO (T.kids 0)).ex 6) + 8 ≤ 100 * (T.kids 0).size := by
        split
        · have := Gq true ((aO (T.kids 0)).ex 1)
          have e : zk true ((aO (T.kids 0)).ex 1) = 40 :: ((aO (T.kids 0)).ex 1 ++ [41]) := rfl
          rw [e] at this
          omega
        · omega
      have a1 := aL T.name.data.toList (if T.name.data.toList = [45] ∧ (T.kids 0).kind = 27 ∧ (T.kids 0).name.data.toList = [45] then 40 :: ((aO (T.kids 0)).ex 1 ++ [41]) else (aO (T.kids 0)).ex 6)
      omega
    by_cases Az : T.kind = 28
    · obtain ⟨hv, hl, lj, rL⟩ := vn Az ax
      have i0 := ih 0 (by omega) lj (lX T.name)
      have i1 := ih 1 (by omega) rL (lX T.name + 1)
      have hn := zn (Gr hv)
      rw [q8 T Az]
      rw [hl] at hS
      simp only [ag] at hS
      have a0 := Gq (decide (lX T.name < l)) ((aO (T.kids 0)).ex (lX T.name) ++ (32 :: (T.name.data.toList ++ 32 :: (aO (T.kids 1)).ex (lX T.name + 1))))
      have a1 := aL ((aO (T.kids 0)).ex (lX T.name)) (32 :: (T.name.data.toList ++ 32 :: (aO (T.kids 1)).ex (lX T.name + 1)))
      have a2 := rC (c := 32) (T.name.data.toList ++ 32 :: (aO (T.kids 1)).ex (lX T.name + 1)) (by decide)
      have a3 := aL T.name.data.toList (32 :: (aO (T.kids 1)).ex (lX T.name + 1))
      have a4 := rC (c := 32) ((aO (T.kids 1)).ex (lX T.name + 1)) (by decide)
      omega
    by_cases zZ : T.kind = 29
    · obtain ⟨hl, he⟩ := vk zZ ax
      have i6 := ih 0 (by omega) he 6
      rw [q6 T zZ]
      rw [hl] at hS
      simp only [ag] at hS
      have a1 := aL [60, 45] ((aO (T.kids 0)).ex 6)
      have e1 : mu [60, 45] = 4 := by decide
      omega
    rw [b8] at ax
    simp [cq, Bx, ym, AA, yl, xn, yK, Az, zZ] at ax
  exact bj0
structure SMu (T : Nd) : Prop where
 st : T.sOk = true → ∀ d, mu ((aO T).st d) + 10 ≤ 100 * T.size
 sts : T.sOk = true → T.kind = 4 → ∀ d, mu ((aO T).sts d) + 30 ≤ 100 * T.size
 cs : T.cOk = true → ∀ d, mu ((aO T).cs d) ≤ 100 * T.size
theorem ya (d : Nat) (t : List UInt8) : mu (aV d t) ≤ mu t + 6 := by
 unfold aV
 have a1 := aL [123, 10] (t ++ (bI d ++ [125]))
 have a2 := aL t (bI d ++ [125])
 have a3 := aL (bI d) [125]
 have e1 : mu [123, 10] = 4 := by decide
 have e2 : mu [125] = 2 := by decide
 have := tI d
 omega
theorem sG (T : Nd) {i : Nat} (h : i < T.len) : (T.kids i).size + 1 ≤ T.size := by
 rw [T.size_eq]; have := nj (fun i => (T.kids i).size) h; omega
theorem s7 {w : List UInt8} {c : Nat} (hw : mu w ≤ c) {T : Nd} (hE : ∀ i, i < T.len → i = 0 → (T.kids i).eOk = true) : mu (w ++ (if T.len = 0 then [] else (aO (T.kids 0)).ex 1)) + 100 ≤ c + 100 * T.size := by
 have a1 := aL w (if T.len = 0 then [] else (aO (T.kids 0)).ex 1)
 have hS := T.size_eq
 by_cases h0 : T.len = 0
 ·rw [if_pos h0] at a1 ⊢
  have e : mu ([] : List UInt8) = 0 := rfl
  omega
 ·rw [if_neg h0] at a1 ⊢
  have := rO _ (hE 0 (by omega) rfl) 1
  have := sG T (show 0 < T.len by omega)
  omega
theorem TE (K : Nd) (h : K.cOk = true) (hL : SMu (K.kids (K.len - 1))) (d : Nat) : mu ((aO K).cs d) ≤ 100 * K.size := by
 have il : mu (if K.name.data.toList = [] then [] else K.name.data.toList ++ [32, 58, 61, 32]) ≤ 45 := by
  split
  ·decide
  ·rename_i fE
   rw [pQ] at h
   by_cases hk : K.kind = 16
   ·simp only [mE, hk, if_true, Bool.and_eq_true, Bool.or_eq_true] at h
    rcases h.1 with h | h
    ·exfalso; apply fE
     unfold az at h
     rw [ByteArray.toList_eq] at h
     simpa using h
    ·have a := aL K.name.data.toList [32, 58, 61, 32]
     have b := nN h.2
     have e : mu [32, 58, 61, 32] = 4 := by decide
     omega
   ·simp [mE, hk] at h
 obtain ⟨hk, h3, ES, hs⟩ := xx h
 rw [yt K hk]
 have hb := hL.sts hs ES (d + 1)
 have hS := K.size_eq
 have hl : 1 ≤ K.len := by rcases h3 with h | h | h <;> omega
 have a1 := aL (bI d) (cw K.num K.name.data.toList (fun i => aO (K.kids i)) ++ ([58, 10] ++ (aO (K.kids (K.len - 1))).sts (d + 1)))
 have a2 := aL (cw K.num K.name.data.toList (fun i => aO (K.kids i))) ([58, 10] ++ (aO (K.kids (K.len - 1))).sts (d + 1))
 have a3 := aL [58, 10] ((aO (K.kids (K.len - 1))).sts (d + 1))
 have e1 : mu [58, 10] = 4 := by decide
 have e2 := tI d
 rcases h3 with ⟨a, b⟩ | ⟨a, b, c⟩ | ⟨a, b, c, e⟩
 ·have ht0 : cw K.num K.name.data.toList (fun i => aO (K.kids i)) = [100, 101, 102, 97, 117, 108, 116] := by rw [a]; rfl
  have ht : mu (cw K.num K.name.data.toList (fun i => aO (K.kids i))) = 8 := by rw [ht0]; decide
  have := sG K (show K.len - 1 < K.len by omega)
  omega
 ·have hx := rO _ c 6
  have ht : mu (cw K.num K.name.data.toList (fun i => aO (K.kids i))) ≤ 54 + mu ((aO (K.kids 0)).ex 6) := by
   rw [a]; unfold cw
   rw [if_neg (by decide), if_pos rfl]
   dsimp only
   have b1 := aL [99, 97, 115, 101, 32] ((if K.name.data.toList = [] then [] else K.name.data.toList ++ [32, 58, 61, 32]) ++ ([60, 45] ++ (aO (K.kids 0)).ex 6))
   have b2 := aL (if K.name.data.toList = [] then [] else K.name.data.toList ++ [32, 58, 61, 32]) ([60, 45] ++ (aO (K.kids 0)).ex 6)
   have b3 := aL [60, 45] ((aO (K.kids 0)).ex 6)
   have e3 : mu [99, 97, 115, 101, 32] = 5 := by decide
   have e4 : mu [60, 45] = 4 := by decide
   omega
  rw [b] at hS hb a1 a2 a3 ⊢
  simp only [ag, Nat.reduceSub] at hS hb a1 a2 a3 ⊢
  omega
 ·have hx := rO _ c 1
  have hy := rO _ e 1
  have ht : mu (cw K.num K.name.data.toList (fun i => aO (K.kids i))) ≤ 9 + mu ((aO (K.kids 0)).ex 1) + mu ((aO (K.kids 1)).ex 1) := by
   rw [a]; unfold cw
   rw [if_neg (by decide), if_neg (by decide)]
   dsimp only
   have b1 := aL [99, 97, 115, 101, 32] ((aO (K.kids 0)).ex 1 ++ ([32, 60, 45, 32] ++ (aO (K.kids 1)).ex 1))
   have b2 := aL ((aO (K.kids 0)).ex 1) ([32, 60, 45, 32] ++ (aO (K.kids 1)).ex 1)
   have b3 := aL [32, 60, 45, 32] ((aO (K.kids 1)).ex 1)
   have e3 : mu [99, 97, 115, 101, 32] = 5 := by decide
   have e4 : mu [32, 60, 45, 32] = 4 := by decide
   omega
  rw [b] at hS hb a1 a2 a3 ⊢
  simp only [ag, Nat.reduceSub] at hS hb a1 a2 a3 ⊢
  omega
theorem QM (T : Nd) : SMu T := by
  have step : ∀ T : Nd, (∀ i, i < T.len → SMu (T.kids i)) → SMu T := by
    intro T ih
    have hS := T.size_eq
    have zy : T.sOk = true → T.kind = 4 → ∀ d, mu ((aO T).sts d) + 30 ≤ 100 * T.size := by
      intro ax h4 d
      have hk := nL h4 ax
      rw [xX]
      have hs := uL (fun i => bI d ++ ((aO (T.kids i)).st d ++ [10])) (fun i => (T.kids i).size) T.len (fun i hi => by
        have h1 := (ih i hi).st (hk i hi) d
        have a1 := aL (bI d) ((aO (T.kids i)).st d ++ [10])
        have a2 := aL ((aO (T.kids i)).st d) [10]
        have e1 : mu [10] = 2 := by decide
        have e2 := tI d
        show mu (bI d ++ ((aO (T.kids i)).st d ++ [10])) ≤ _
        omega)
      omega
    refine ⟨fun ax d => ?_, zy, fun h d => ?_⟩
    · by_cases h4 : T.kind = 4
      · rw [kR T h4]
        have := ya d ((aO T).sts (d + 1))
        have := zy ax h4 (d + 1)
        omega
      by_cases h5 : T.kind = 5
      · rw [sz T h5]
        have hn := nN (A5 (.inl h5) ax)
        have a := aL T.name.data.toList [32, 58, 61, 32]
        have e : mu [32, 58, 61, 32] = 4 := by decide
        have := s7 (w := T.name.data.toList ++ [32, 58, 61, 32]) (c := 45) (by omega) (xP h5 ax)
        omega
      by_cases h6 : T.kind = 6
      · rw [sy T h6]
        have hn := nN (A5 (.inr (.inl h6)) ax)
        have a := aL T.name.data.toList [32, 61, 32]
        have e : mu [32, 61, 32] = 2 := by decide
        have := s7 (w := T.name.data.toList ++ [32, 61, 32]) (c := 45) (by omega) (xO h6 ax)
        omega
      by_cases h7 : T.kind = 7
      · rw [sw T h7]
        have hn := nN (A5 (.inr (.inr h7)) ax)
        have a := aL T.name.data.toList (if T.num = 1 then [43, 43] else [45, 45])
        have e : mu (if T.num = 1 then [43, 43] else [45, 45]) ≤ 4 := by split <;> decide
        omega
      by_cases h8 : T.kind = 8
      · obtain ⟨hl, lj, rL⟩ := xN h8 ax
        rw [su T h8]
        have i0 := rO _ lj 1
        have i1 := rO _ rL 1
        have a1 := aL ((aO (T.kids 0)).ex 1) ([32, 60, 45, 32] ++ (aO (T.kids 1)).ex 1)
        have a2 := aL [32, 60, 45, 32] ((aO (T.kids 1)).ex 1)
        have e : mu [32, 60, 45, 32] = 4 := by decide
        rw [hl] at hS
        simp only [ag] at hS
        omega
      by_cases h9 : T.kind = 9
      · obtain ⟨hl, lj⟩ := xM h9 ax
        rw [sr T h9]
        have i0 := rO _ lj 1
        have := sG T (show 0 < T.len by omega)
        omega
      by_cases lA : T.kind = 10
      · obtain ⟨hl, he, ⟨mP, aY⟩, h2⟩ := ov lA ax
        rw [lz T lA]
        have i0 := rO _ he 1
        have i1 := (ih 1 (by omega)).sts aY mP (d + 1)
        have b := ya d ((aO (T.kids 1)).sts (d + 1))
        have c2 : (T.len = 2 → mu (if T.len = 3 then [32, 101, 108, 115, 101, 32] ++ (aO (T.kids 2)).st d else []) = 0) ∧ (T.len = 3 → mu (if T.len = 3 then [32, 101, 108, 115, 101, 32] ++ (aO (T.kids 2)).st d else []) ≤ 100 * (T.kids 2).size) := by
          refine ⟨fun h => by rw [if_neg (by omega)]; rfl, fun h3 => ?_⟩
          rw [if_pos h3]
          have i2 := (ih 2 (by omega)).st (h2 h3).2 d
          have a := aL [32, 101, 108, 115, 101, 32] ((aO (T.kids 2)).st d)
          have e : mu [32, 101, 108, 115, 101, 32] = 5 := by decide
          omega
        have a1 := aL [105, 102, 32] ((aO (T.kids 0)).ex 1 ++ (32 :: (aV d ((aO (T.kids 1)).sts (d + 1)) ++ (if T.len = 3 then [32, 101, 108, 115, 101, 32] ++ (aO (T.kids 2)).st d else []))))
        have a2 := aL ((aO (T.kids 0)).ex 1) (32 :: (aV d ((aO (T.kids 1)).sts (d + 1)) ++ (if T.len = 3 then [32, 101, 108, 115, 101, 32] ++ (aO (T.kids 2)).st d else [])))
        have a3 := rC (c := 32) (aV d ((aO (T.kids 1)).sts (d + 1)) ++ (if T.len = 3 then [32, 101, 108, 115, 101, 32] ++ (aO (T.kids 2)).st d else [])) (by decide)
        have a4 := aL (aV d ((aO (T.kids 1)).sts (d + 1))) (if T.len = 3 then [32, 101, 108, 115, 101, 32] ++ (aO (T.kids 2)).st d else [])
        have e1 : mu [105, 102, 32] = 3 := by decide
        rcases hl with hl | hl
        · have c3 := c2.1 hl
          rw [hl] at hS
          simp only [ag] at hS
          omega
        · have c3 := c2.2 hl
          rw [hl] at hS
          simp only [ag] at hS
          omega
      by_cases rM : T.kind = 11
      · rw [oN T rM]
        have b := ya d ((aO (T.kids (T.len - 1))).sts (d + 1))
        have a1 := aL [102, 111, 114, 32] ((if T.len = 2 then (aO (T.kids 0)).ex 1 ++ [32] else []) ++ aV d ((aO (T.kids (T.len - 1))).sts (d + 1)))
        have a2 := aL (if T.len = 2 then (aO (T.kids 0)).ex 1 ++ [32] else []) (aV d ((aO (T.kids (T.len - 1))).sts (d + 1)))
        have e1 : mu [102, 111, 114, 32] = 4 := by decide
        rcases pA rM ax with ⟨hl, hk, hs⟩ | ⟨hl, he, hk, hs⟩
        · have i0 := (ih 0 (by omega)).sts hs hk (d + 1)
          rw [if_neg (by omega)] at a1 a2 ⊢
          have e : mu ([] : List UInt8) = 0 := rfl
          rw [hl] at hS b a1 a2 ⊢
          simp only [ag, Nat.reduceSub] at hS b a1 a2 ⊢
          omega
        · have i0 := rO _ he 1
          have i1 := (ih 1 (by omega)).sts hs hk (d + 1)
          rw [if_pos hl] at a1 a2 ⊢
          have a3 := aL ((aO (T.kids 0)).ex 1) [32]
          have e : mu [32] = 0 := by decide
          rw [hl] at hS b a1 a2 ⊢
          simp only [ag, Nat.reduceSub] at hS b a1 a2 ⊢
          omega
      by_cases tM : T.kind = 12
      · rw [oM T tM]
        by_cases h0 : T.len = 0
        · rw [if_pos h0]
          have e : mu [114, 101, 116, 117, 114, 110] = 7 := by decide
          omega
        · rw [if_neg h0]
          have := s7 (w := [114, 101, 116, 117, 114, 110, 32]) (c := 7) (by decide) (uC tM ax)
          omega
      by_cases CG : T.kind = 13
      · rw [qO T CG]
        have := s7 (w := [103, 111, 32]) (c := 3) (by decide) (uz CG ax)
        omega
      by_cases CF : T.kind = 14
      · rw [qN T CF]
        have := s7 (w := [100, 101, 102, 101, 114, 32]) (c := 6) (by decide) (uy CF ax)
        omega
      by_cases vN : T.kind = 15
      · have hk := ux vN ax
        rw [qM T vN]
        have hs := uL (fun i => (aO (T.kids i)).cs d) (fun i => (T.kids i).size) T.len (fun i hi => (ih i hi).cs (hk i hi) d)
        have a1 := aL [115, 101, 108, 101, 99, 116, 32, 123, 10] (aX (fun i => (aO (T.kids i)).cs d) T.len ++ (bI d ++ [125]))
        have a2 := aL (aX (fun i => (aO (T.kids i)).cs d) T.len) (bI d ++ [125])
        have a3 := aL (bI d) [125]
        have e1 : mu [115, 101, 108, 101, 99, 116, 32, 123, 10] = 11 := by decide
        have e2 : mu [125] = 2 := by decide
        have e3 := tI d
        omega
      by_cases wb : T.kind = 17
      · rw [qL T wb]
        have e : mu [98, 114, 101, 97, 107] = 6 := by decide
        omega
      by_cases AD : T.kind = 18
      · rw [qK T AD]
        have e : mu [99, 111, 110, 116, 105, 110, 117, 101] = 9 := by decide
        omega
      have e41 : mu [41] = 2 := by decide
      by_cases AC : T.kind = 19
      · rw [qJ T AC]
        have a := aL ([99, 108, 111, 115, 101, 40] ++ (if T.len = 0 then [] else (aO (T.kids 0)).ex 1)) [41]
        have := s7 (w := [99, 108, 111, 115, 101, 40]) (c := 8) (by decide) (uw AC ax)
        omega
      by_cases AB : T.kind = 20
      · rw [qI T AB]
        have a := aL ([112, 114, 105, 110, 116, 40] ++ (if T.len = 0 then [] else (aO (T.kids 0)).ex 1)) [41]
        have := s7 (w := [112, 114, 105, 110, 116, 40]) (c := 8) (by decide) (ur AB ax)
        omega
      by_cases yL : T.kind = 21
      · rw [qH T yL]
        have a := aL ([112, 97, 110, 105, 99, 40] ++ (if T.len = 0 then [] else (aO (T.kids 0)).ex 1)) [41]
        have := s7 (w := [112, 97, 110, 105, 99, 40]) (c := 8) (by decide) (uo yL ax)
        omega
      exact bj2
    · have hl : 1 ≤ T.len := by
        obtain ⟨_, h3, _⟩ := xx h
        rcases h3 with h | h | h <;> omega
      exact TE T h (ih (T.len - 1) (by omega)) d
  exact bj0
theorem Cb (n : Int) : mu (fV n) ≤ 9 := by
 unfold fV; repeat' split
 all_goals decide
theorem OA (K : Nd) (h : fR K = true) : mu (pH K) + 2 ≤ 100 * K.size := by
  have hf := h
  obtain ⟨_, hL, _, hk, hs⟩ := yn h
  unfold fR at hf
  simp only [Bool.and_eq_true, decide_eq_true_eq] at hf
  obtain ⟨⟨⟨⟨_, il⟩, _⟩, _⟩, hpm, _⟩ := hf
  obtain ⟨m, hm⟩ : ∃ m, K.len = m + 1 := ⟨K.len - 1, by omega⟩
  have hS := K.size_eq
  have hb := (QM (K.kids (K.len - 1))).sts hs hk 1
  have hp := uL (lO K) (fun i => (K.kids i).size) (K.len - 1) (fun i hi => by
    have hq := bD.1 hpm i hi
    unfold mb at hq
    simp only [Bool.and_eq_true, decide_eq_true_eq] at hq
    have hn := nN hq.1.1.2
    have h1 := (K.kids i).size_eq
    have ht := Cb (K.kids i).num
    unfold lO
    have a1 := aL (if i = 0 then [] else [44, 32]) ((K.kids i).name.data.toList ++ 32 :: fV (K.kids i).num)
    have a2 := aL (K.kids i).name.data.toList (32 :: fV (K.kids i).num)
    have a3 := rC (c := 32) (fV (K.kids i).num) (by decide)
    have e : mu (if i = 0 then [] else [44, 32]) ≤ 2 := by split <;> decide
    omega)
  have hn := nN il
  have ht : mu (if K.num = 0 then [] else fV K.num ++ [32] : List UInt8) ≤ 9 := by
    split
    · decide
    · have := Cb K.num
      have a := aL (fV K.num) [32]
      have e : mu [32] = 0 := by decide
      omega
  rw [ve]
  have bk := ya 0 ((aO (K.kids (K.len - 1))).sts 1)
  have a1 := aL [102, 117, 110, 99, 32] (K.name.data.toList ++ (40 :: (aX (lO K) (K.len - 1) ++ ([41, 32] ++ ((if K.num = 0 then [] else fV K.num ++ [32]) ++ (aV 0 ((aO (K.kids (K.len - 1))).sts 1) ++ [10]))))))
  have a2 := aL K.name.data.toList (40 :: (aX (lO K) (K.len - 1) ++ ([41, 32] ++ ((if K.num = 0 then [] else fV K.num ++ [32]) ++ (aV 0 ((aO (K.kids (K.len - 1))).sts 1) ++ [10])))))
  have a3 := uK 40 (aX (lO K) (K.len - 1) ++ ([41, 32] ++ ((if K.num = 0 then [] else fV K.num ++ [32]) ++ (aV 0 ((aO (K.kids (K.len - 1))).sts 1) ++ [10]))))
  have a4 := aL (aX (lO K) (K.len - 1)) ([41, 32] ++ ((if K.num = 0 then [] else fV K.num ++ [32]) ++ (aV 0 ((aO (K.kids (K.len - 1))).sts 1) ++ [10])))
  have a5 := aL [41, 32] ((if K.num = 0 then [] else fV K.num ++ [32]) ++ (aV 0 ((aO (K.kids (K.len - 1))).sts 1) ++ [10]))
  have a6 := aL (if K.num = 0 then [] else fV K.num ++ [32]) (aV 0 ((aO (K.kids (K.len - 1))).sts 1) ++ [10])
  have a7 := aL (aV 0 ((aO (K.kids (K.len - 1))).sts 1)) [10]
  have e1 : mu [102, 117, 110, 99, 32] = 5 := by decide
  have e2 : mu [41, 32] = 2 := by decide
  have e3 : mu [10] = 2 := by decide
  rw [hm] at hS hb hp bk a1 a2 a3 a4 a5 a6 a7 ⊢
  simp only [ag, Nat.add_sub_cancel] at hS hb hp bk a1 a2 a3 a4 a5 a6 a7 ⊢
  omega
theorem KS (T : Nd) (h : gg T = true) : mu (ls T) ≤ 60000 := by
  unfold gg at h
  simp only [Bool.and_eq_true, decide_eq_true_eq] at h
  have hz : T.size ≤ 600 := h.1.1.1.1
  have hf := bD.1 h.2
  have hS := T.size_eq
  have hs := uL (fun i => (if i = 0 then [] else [10]) ++ pH (T.kids i)) (fun i => (T.kids i).size) T.len (fun i hi => by
    have h1 := OA _ (hf i hi)
    have a := aL (if i = 0 then [] else [10]) (pH (T.kids i))
    have e : mu (if i = 0 then [] else [10]) ≤ 2 := by split <;> decide
    show mu ((if i = 0 then [] else [10]) ++ pH (T.kids i)) ≤ _
    omega)
  unfold ls
  omega
end Go.Proofs.YtkfbbdhidecefaaDoor
