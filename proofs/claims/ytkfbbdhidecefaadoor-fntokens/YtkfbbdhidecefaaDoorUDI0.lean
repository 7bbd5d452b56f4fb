import Derived.WalkKit
set_option linter.unusedVariables false
set_option maxHeartbeats 16000000
set_option maxRecDepth 100000
namespace Go.Proofs.YtkfbbdhidecefaaDoor
open Go.RowKit
section
open Go
def LY (ops : Array Oper) (listed : Array Bool) : Nat := (List.range ops.size).countP fun i => !listed.getD i true
theorem bd {md : Region.Mode} {ops : Array Oper} {listed : Array Bool} {i : Nat} (h : i ∈ Region.ready md ops listed) : i < ops.size ∧ listed.getD i true = false := by
 unfold Region.ready at h
 simp only [List.mem_filter, List.mem_range, Bool.and_eq_true, Bool.not_eq_true'] at h
 exact ⟨h.1, h.2.1⟩
theorem Je {md : Region.Mode} {ops : Array Oper} {listed : Array Bool} {i : Nat} (h : i ∈ Region.ready md ops listed) : 0 < LY ops listed := by
 obtain ⟨h1, h2⟩ := bd h
 unfold LY
 rw [List.countP_pos_iff]
 exact ⟨i, List.mem_range.2 h1, by simp [h2]⟩
theorem Jd {md : Region.Mode} {ops : Array Oper} {listed : Array Bool} {i : Nat} (h : i ∈ Region.ready md ops listed) : LY ops (listed.setIfInBounds i true) < LY ops listed := by
 obtain ⟨h1, h2⟩ := bd h
 have bm : i < listed.size := by
  rcases Nat.lt_or_ge i listed.size with h | h
  ·exact h
  ·rw [Array.getD_eq_getD_getElem?, Array.getElem?_eq_none h] at h2; simp at h2
 unfold LY
 have hle : ∀ j, (!(listed.setIfInBounds i true).getD j true) = true → (!listed.getD j true) = true := by
  intro j hj
  rw [Array.getD_eq_getD_getElem?, Array.getElem?_setIfInBounds] at hj
  split at hj
  ·rename_i e; simp at hj
  ·rw [Array.getD_eq_getD_getElem?]; exact hj
 have hi : (!(listed.setIfInBounds i true).getD i true) = false := by
  rw [Array.getD_eq_getD_getElem?, Array.getElem?_setIfInBounds]; simp [bm]
 have nx : (!listed.getD i true) = true := by simp [h2]
 have Kv : i ∈ List.range ops.size := List.mem_range.2 h1
 revert Kv
 generalize List.range ops.size = l
 intro Kv
 induction l with
 |nil => cases Kv
 |cons x l ih =>
  have hmono := List.countP_mono_left (l := l) (fun j _ hj => hle j hj)
  simp only [List.countP_cons]
  rcases List.mem_cons.1 Kv with e | hm
  ·subst e
   rw [hi, nx]
   simp only [Bool.false_eq_true, if_false, if_true]
   omega
  ·have := ih hm
   have hx := hle x
   by_cases hb : (!(listed.setIfInBounds i true).getD x true) = true
   ·rw [if_pos hb, if_pos (hx hb)]; omega
   ·rw [if_neg hb]; omega
theorem wy {P : Program} {ops : Array Oper} {Q : Exit → Act → World → Prop} {md : Region.Mode} (I : Array Bool → Act → World → Prop)
  (zz : ∀ (listed : Array Bool) (a : Act) (w : World) (i : Nat), I listed a w → i ∈ Region.ready md ops listed → wpOp P ops Q i (fun a' w' => I (listed.setIfInBounds i true) a' w') a w)
  (oB : ∀ (listed : Array Bool) (a : Act) (w : World), I listed a w → Region.ready md ops listed = [] → Q .normal a w) :
  ∀ (fuel : Nat) (listed : Array Bool) (a : Act) (w : World), LY ops listed ≤ fuel → I listed a w → wpAny P md ops Q fuel listed a w := by
 intro fuel
 induction fuel with
 |zero =>
  intro listed a w hu hI
  have hr : Region.ready md ops listed = [] := by
   cases h : Region.ready md ops listed with
   |nil => rfl
   |cons i l => have := Je (show i ∈ Region.ready md ops listed by rw [h]; simp); omega
  exact ⟨hr, oB _ _ _ hI hr⟩
 |succ fuel ih =>
  intro listed a w hu hI
  refine ⟨fun hr => oB _ _ _ hI hr, fun i hi => ?_⟩
  refine wpOp_mono (fun a' w' h => ih _ a' w' ?_ h) (zz listed a w i hI hi)
  have := Jd hi
  omega
end
section
open Go
def early (ops : Array Oper) : Bool := (List.range ops.size).all fun i => match ops[i]? with | some o => o.after.all fun e => !Region.binds .any e || decide (e.on < i) | none => true
theorem rj {ops : Array Oper} {listed : Array Bool} (he : early ops = true) (hs : listed.size = ops.size) (hr : Region.ready .any ops listed = []) : ∀ i, i < ops.size → listed.getD i true = true := by
 intro i
 induction i using Nat.strongRecOn with
 |ind i ih =>
  intro hi
  cases hb : listed.getD i true with
  |true => rfl
  |false =>
   exfalso
   have hm : i ∈ Region.ready .any ops listed := by
    unfold Region.ready
    rw [List.mem_filter]
    refine ⟨List.mem_range.2 hi, ?_⟩
    have ho : ops[i]? = some ops[i] := Array.getElem?_eq_getElem hi
    rw [hb, ho]
    simp only [Bool.not_false, Bool.true_and, Option.map_some, Option.getD_some, Array.all_eq_true']
    intro e hee
    have h1 := List.all_eq_true.1 he i (List.mem_range.2 hi)
    rw [ho] at h1
    have h2 := Array.all_eq_true'.1 h1 e hee
    cases Qb : Region.binds .any e with
    |false => simp
    |true =>
     rw [Qb] at h2
     have MO : e.on < i := by simpa using h2
     have h3 := ih e.on MO (by omega)
     have h4 : listed.getD e.on false = true := by
      have hl : e.on < listed.size := by omega
      rw [Array.getD_eq_getD_getElem?, Array.getElem?_eq_getElem hl] at h3 ⊢
      exact h3
     rw [h4, Bool.or_true]
   rw [hr] at hm
   cases hm
theorem gE {md : Region.Mode} {ops : Array Oper} {listed : Array Bool} {i : Nat} {o : Oper} (h : i ∈ Region.ready md ops listed) (ho : ops[i]? = some o) : ∀ e ∈ o.after, Region.binds md e = true → listed.getD e.on false = true := by
 unfold Region.ready at h
 simp only [List.mem_filter, ho, Option.map_some, Option.getD_some, Bool.and_eq_true, Array.all_eq_true'] at h
 intro e he hb
 have := h.2.2 e he
 rw [hb] at this
 simpa using this
theorem bq {l : Array Bool} {i j : Nat} (h : i ≠ j) (b : Bool) : (l.setIfInBounds i true).getD j b = l.getD j b := by
 rw [Array.getD_eq_getD_getElem?, Array.getElem?_setIfInBounds, if_neg h, Array.getD_eq_getD_getElem?]
theorem iR {l : Array Bool} {i : Nat} (h : i < l.size) : (l.setIfInBounds i true).getD i false = true := by
 rw [Array.getD_eq_getD_getElem?, Array.getElem?_setIfInBounds, if_pos rfl, if_pos h]; rfl
theorem tN {l : Array Bool} {j : Nat} (h : l.getD j false = true) : l.getD j true = true := by
 rw [Array.getD_eq_getD_getElem?] at *
 cases e : l[j]? with
 |none => rw [e] at h; simp at h
 |some b => rw [e] at h; simpa using h
theorem fF {l : Array Bool} {j : Nat} (h : l.getD j true = false) : l.getD j false = false := by
 rw [Array.getD_eq_getD_getElem?] at *
 cases e : l[j]? with
 |none => rfl
 |some b => rw [e] at h; simpa using h
structure Inv (n : Nat) (d : Nat → Nat) (V : Nat → World → Value → Prop) (S : Array Bool → World → Prop) (a0 : Act) (listed : Array Bool) (a : Act) (w : World) : Prop where
 lsize : listed.size = n
 size : a.tmps.size = a0.tmps.size
 keep : ∀ t, (∀ i, i < n → t ≠ d i) → a.eval (.tmp t) = a0.eval (.tmp t)
 defers : a.defers = a0.defers
 s : S listed w
 vals : ∀ i, i < n → listed.getD i true = true → V i w (a.eval (.tmp (d i)))
theorem Inv.start {n : Nat} {d : Nat → Nat} {V : Nat → World → Value → Prop} {S : Array Bool → World → Prop} {a0 : Act} {w : World} (h : S (Array.replicate n false) w) : Inv n d V S a0 (Array.replicate n false) a0 w :=
 ⟨by simp, rfl, fun _ _ => rfl, rfl, h, fun i hi hl => by rw [Array.getD_eq_getD_getElem?, Array.getElem?_replicate, if_pos hi] at hl; simp at hl⟩
theorem Inv.put1 {n : Nat} {d : Nat → Nat} {V : Nat → World → Value → Prop} {S : Array Bool → World → Prop} {a0 : Act} {listed : Array Bool} {a : Act} {w w' : World} (h : Inv n d V S a0 listed a w) (hd : ∀ i j, i < n → j < n → d i = d j → i = j) 
  {i : Nat} (bP : d i < a0.tmps.size) (hV : ∀ i v, V i w v → V i w' v) (hS : S (listed.setIfInBounds i true) w') (hi : i < n) {v : Value} (hv : V i w' v) : Inv n d V S a0 (listed.setIfInBounds i true) (a.put (some (d i)) v) w' := by
 have zE : ∀ t, (a.put (some (d i)) v).eval (.tmp t) = if t = d i then v else a.eval (.tmp t) := by
  intro t
  show (a.tmps.setIfInBounds (d i) v).getD t undef = _
  rw [Array.getD_eq_getD_getElem?, Array.getElem?_setIfInBounds]
  by_cases e : d i = t
  ·subst e
   rw [if_pos rfl, if_pos rfl, if_pos (by rw [h.size]; exact bP)]; rfl
  ·rw [if_neg e, if_neg (fun x => e x.symm)]
   show _ = a.tmps.getD t undef
   rw [Array.getD_eq_getD_getElem?]
 refine ⟨by simp [h.lsize], by show (a.tmps.setIfInBounds (d i) v).size = _; rw [Array.size_setIfInBounds]; exact h.size, fun t ht => ?_, h.defers, hS, fun j hj hl => ?_⟩
 ·rw [zE, if_neg (ht i hi)]; exact h.keep t ht
 ·rw [zE]
  by_cases e : d j = d i
  ·rw [if_pos e]
   rw [hd j i hj hi e]
   exact hv
  ·rw [if_neg e]
   refine hV j _ (h.vals j hj ?_)
   have fE : ¬ i = j := fun x => e (by rw [x])
   rw [Array.getD_eq_getD_getElem?, Array.getElem?_setIfInBounds, if_neg fE] at hl
   rw [Array.getD_eq_getD_getElem?]; exact hl
theorem Inv.put {n : Nat} {d : Nat → Nat} {V : Nat → World → Value → Prop} {S : Array Bool → World → Prop} {a0 : Act} {listed : Array Bool} {a : Act} {w w' : World} (h : Inv n d V S a0 listed a w) (hd : ∀ i j, i < n → j < n → d i = d j → i = j) (bP : ∀ i, i < n → d i < a0.tmps.size)
  {i : Nat} (hV : ∀ i v, V i w v → V i w' v) (hS : S (listed.setIfInBounds i true) w') (hi : i < n) {v : Value} (hv : V i w' v) : Inv n d V S a0 (listed.setIfInBounds i true) (a.put (some (d i)) v) w' :=
 h.put1 hd (bP i hi) hV hS hi hv
theorem Inv.none {n : Nat} {d : Nat → Nat} {V : Nat → World → Value → Prop} {S : Array Bool → World → Prop} {a0 : Act} {listed : Array Bool} {a : Act} {w w' : World} (h : Inv n d V S a0 listed a w)
  {i : Nat} (hV : ∀ i v, V i w v → V i w' v) (hS : S (listed.setIfInBounds i true) w') (hi : i < n) (hv : ∀ v, V i w' v) : Inv n d V S a0 (listed.setIfInBounds i true) a w' := by
 refine ⟨by simp [h.lsize], h.size, h.keep, h.defers, hS, fun j hj hl => ?_⟩
 by_cases e : i = j
 ·subst e; exact hv _
 ·refine hV j _ (h.vals j hj ?_)
  rw [Array.getD_eq_getD_getElem?, Array.getElem?_setIfInBounds, if_neg e] at hl
  rw [Array.getD_eq_getD_getElem?]; exact hl
theorem ab {a : Act} {t : Nat} {v : Value} (h : a.eval (.tmp t) = v) : a.tmps[t]?.getD undef = v := by
 have : a.tmps.getD t undef = v := h
 rwa [Array.getD_eq_getD_getElem?] at this
def mM (a0 : Act) (d : Nat → Nat) (f : Nat → Value) : Nat → Act
 |0 => a0
 |n + 1 => (mM a0 d f n).put (some (d n)) (f n)
theorem wS (a0 a : Act) (d : Nat → Nat) (hs : a.tmps.size = a0.tmps.size) : ∀ n, (mM a0 d (fun i => a.eval (.tmp (d i))) n).tmps.size = a0.tmps.size ∧ (mM a0 d (fun i => a.eval (.tmp (d i))) n).defers = a0.defers ∧
  ∀ t, t < a0.tmps.size → ((∃ i, i < n ∧ d i = t) → (mM a0 d (fun i => a.eval (.tmp (d i))) n).eval (.tmp t) = a.eval (.tmp t)) ∧ ((∀ i, i < n → d i ≠ t) → (mM a0 d (fun i => a.eval (.tmp (d i))) n).eval (.tmp t) = a0.eval (.tmp t))
 |0 => ⟨rfl, rfl, fun t _ => ⟨fun ⟨i, hi, _⟩ => absurd hi (Nat.not_lt_zero _), fun _ => rfl⟩⟩
 |n + 1 => by
  obtain ⟨h1, h2, h3⟩ := wS a0 a d hs n
  have zE : ∀ t, t < a0.tmps.size → (mM a0 d (fun i => a.eval (.tmp (d i))) (n + 1)).eval (.tmp t) = if t = d n then a.eval (.tmp (d n)) else (mM a0 d (fun i => a.eval (.tmp (d i))) n).eval (.tmp t) := by
   intro t ht
   show ((mM a0 d (fun i => a.eval (.tmp (d i))) n).tmps.setIfInBounds (d n) (a.eval (.tmp (d n)))).getD t undef = _
   rw [Array.getD_eq_getD_getElem?, Array.getElem?_setIfInBounds]
   by_cases e : d n = t
   ·subst e
    rw [if_pos rfl, if_pos rfl, if_pos (by rw [h1]; exact ht)]; rfl
   ·rw [if_neg e, if_neg (fun x => e x.symm)]
    show _ = (mM a0 d (fun i => a.eval (.tmp (d i))) n).tmps.getD t undef
    rw [Array.getD_eq_getD_getElem?]
  refine ⟨?_, h2, fun t ht => ⟨fun ⟨i, hi, e⟩ => ?_, fun yF => ?_⟩⟩
  ·show ((mM a0 d (fun i => a.eval (.tmp (d i))) n).tmps.setIfInBounds (d n) _).size = _
   rw [Array.size_setIfInBounds]; exact h1
  ·rw [zE t ht]
   by_cases e2 : t = d n
   ·rw [if_pos e2, e2]
   ·rw [if_neg e2]
    refine (h3 t ht).1 ⟨i, ?_, e⟩
    rcases Nat.lt_or_ge i n with h | h
    ·exact h
    ·have : i = n := by omega
     subst this; exact absurd e.symm e2
  ·rw [zE t ht, if_neg (fun e => yF n (Nat.lt_succ_self n) e.symm)]
   exact (h3 t ht).2 fun i hi => yF i (by omega)
theorem iV {a0 a : Act} {d : Nat → Nat} {n : Nat} (hs : a.tmps.size = a0.tmps.size) (hd : a.defers = a0.defers) (hk : ∀ t, (∀ i, i < n → t ≠ d i) → a.eval (.tmp t) = a0.eval (.tmp t)) : a = mM a0 d (fun i => a.eval (.tmp (d i))) n := by
 obtain ⟨h1, h2, h3⟩ := wS a0 a d hs n
 have hev : ∀ t, t < a0.tmps.size → (mM a0 d (fun i => a.eval (.tmp (d i))) n).eval (.tmp t) = a.eval (.tmp t) := by
  intro t ht
  by_cases e : ∃ i, i < n ∧ d i = t
  ·exact (h3 t ht).1 e
  ·rw [(h3 t ht).2 (fun i hi e2 => e ⟨i, hi, e2⟩)]
   exact (hk t fun i hi e2 => e ⟨i, hi, e2.symm⟩).symm
 generalize mM a0 d (fun i => a.eval (.tmp (d i))) n = b at *
 obtain ⟨ta, da⟩ := a
 obtain ⟨tb, db⟩ := b
 simp only at h1 h2 hs hd hev
 have ht : ta = tb := by
  apply Array.ext (by omega)
  intro i hi1 Sw
  have := hev i (by omega)
  simp only [Act.eval, Array.getD_eq_getD_getElem?, hi1, Sw, Array.getElem?_eq_getElem, Option.getD_some] at this
  exact this.symm
 rw [ht, hd, h2]
theorem mq {P : Program} {ops : Array Oper} {Q : Exit → Act → World → Prop} {id : Nat} {a0 : Act} {w0 : World} (hm : P.follows .mixedOrders = true) (he : early ops = true) (d : Nat → Nat) (V : Nat → World → Value → Prop) (S : Array Bool → World → Prop) (hS : S (Array.replicate ops.size false) w0.drew)
  (zz : ∀ (listed : Array Bool) (a : Act) (w : World) (i : Nat), Inv ops.size d V S a0 listed a w → i ∈ Region.ready .any ops listed → wpOp P ops Q i (fun a' w' => Inv ops.size d V S a0 (listed.setIfInBounds i true) a' w') a w)
  (oB : ∀ (a : Act) (w : World), a.tmps.size = a0.tmps.size → a.defers = a0.defers → (∀ t, (∀ i, i < ops.size → t ≠ d i) → a.eval (.tmp t) = a0.eval (.tmp t)) → (∃ listed : Array Bool, listed.size = ops.size ∧ S listed w ∧ ∀ i, i < ops.size → listed.getD i true = true) → (∀ i, i < ops.size → V i w (a.eval (.tmp (d i)))) → Q .normal a w) : (Code.region id ops true).wp P Q a0 w0 := by
 refine wp_region_any hm ?_
 refine wy (Inv ops.size d V S a0) zz (fun listed a w hI hr => oB a w hI.size hI.defers hI.keep ⟨listed, hI.lsize, hI.s, rj he hI.lsize hr⟩ fun i hi => hI.vals i hi (rj he hI.lsize hr i hi)) ops.size _ a0 _ ?_ (Inv.start hS)
 unfold LY
 exact Nat.le_trans List.countP_le_length (by simp)
theorem lx {P : Program} {ops : Array Oper} {Q : Exit → Act → World → Prop} {K : Act → World → Prop} {a : Act} {w : World} {i : Nat} {o : Oper} (hi : ops[i]? = some o) (hg : o.guard = none) (h : o.wp P a w K Q) : wpOp P ops Q i K a w := by
 unfold wpOp
 rw [hi]
 have : Region.wanted o (yielded ops a.tmps) = true := by simp [Region.wanted, hg]
 simp only [this, if_true]
 exact .inl h
end
section
open Go
theorem ow {l : Array Bool} {i j : Nat} (h : l.getD j false = true) : (l.setIfInBounds i true).getD j false = true := by
 by_cases e : i = j
 ·subst e
  refine iR ?_
  rcases Nat.lt_or_ge i l.size with h' | h'
  ·exact h'
  ·rw [Array.getD_eq_getD_getElem?, Array.getElem?_eq_none h'] at h; simp at h
 ·rw [bq e]; exact h
theorem xq {l : Array Bool} {i : Nat} (h : l.getD i true = false) (h' : l.getD i false = true) : False := by
 rw [tN h'] at h; cases h
def S2 (p m : Nat) (W0 W1 W2 : World) (l : Array Bool) (v : World) : Prop :=
 v = (if l.getD (p + 1) false = true then W2 else if l.getD p false = true then W1 else W0) ∧ (l.getD p false = true → ∀ i, i < m → l.getD i false = true) ∧ (l.getD (p + 1) false = true → ∀ i, i < p + 1 → l.getD i false = true)
theorem S2.start (n p m : Nat) (W0 W1 W2 : World) : S2 p m W0 W1 W2 (Array.replicate n false) W0 := by
 have h : ∀ j, (Array.replicate n false).getD j false = false := fun j => by
  rw [Array.getD_eq_getD_getElem?, Array.getElem?_replicate]; split <;> rfl
 exact ⟨(by rw [h, h]; simp), (fun e => absurd e (by rw [h]; simp)), (fun e => absurd e (by rw [h]; simp))⟩
theorem S2.low {p m : Nat} {W0 W1 W2 : World} {l : Array Bool} {v : World} (h : S2 p m W0 W1 W2 l v) {i : Nat} (hi : i < m) (hm : m ≤ p) (hu : l.getD i true = false) : v = W0 := by
 have h1 : ¬ l.getD p false = true := fun e => xq hu (h.2.1 e i hi)
 have h2 : ¬ l.getD (p + 1) false = true := fun e => xq hu (h.2.2 e i (by omega))
 rw [h.1, if_neg h2, if_neg h1]
theorem S2.mid {p m : Nat} {W0 W1 W2 : World} {l : Array Bool} {v : World} (h : S2 p m W0 W1 W2 l v) {i : Nat} (hi : i < p + 1) (hu : l.getD i true = false) : v = W0 ∨ v = W1 := by
 have h2 : ¬ l.getD (p + 1) false = true := fun e => xq hu (h.2.2 e i hi)
 rw [h.1, if_neg h2]
 by_cases e : l.getD p false = true
 ·rw [if_pos e]; exact .inr rfl
 ·rw [if_neg e]; exact .inl rfl
theorem S2.put {p m : Nat} {W0 W1 W2 : World} {l : Array Bool} {v : World} (h : S2 p m W0 W1 W2 l v) {i : Nat} (hi : i < p) : S2 p m W0 W1 W2 (l.setIfInBounds i true) v := by
 unfold S2
 rw [bq (by omega : i ≠ p), bq (by omega : i ≠ p + 1)]
 exact ⟨h.1, fun e j hj => ow (h.2.1 e j hj), fun e j hj => ow (h.2.2 e j hj)⟩
theorem S2.first {p m : Nat} {W0 W1 W2 : World} {l : Array Bool} {v : World} (h : S2 p m W0 W1 W2 l v) (hs : p < l.size) (hu : l.getD p true = false) (hd : ∀ i, i < m → l.getD i false = true) : v = W0 ∧ S2 p m W0 W1 W2 (l.setIfInBounds p true) W1 := by
 have h1 : ¬ l.getD p false = true := fun e => xq hu e
 have h2 : ¬ l.getD (p + 1) false = true := fun e => xq hu (h.2.2 e p (by omega))
 refine ⟨by rw [h.1, if_neg h2, if_neg h1], ?_⟩
 unfold S2
 rw [bq (by omega : p ≠ p + 1), iR hs, if_neg h2]
 exact ⟨by simp, fun _ j hj => ow (hd j hj), fun e => absurd e h2⟩
theorem S2.done {p m : Nat} {W0 W1 W2 : World} {l : Array Bool} {v : World} (h : S2 p m W0 W1 W2 l v) (hd : l.getD (p + 1) false = true) : v = W2 := by rw [h.1, if_pos hd]
def S1 (p : Nat) (R R' : World → Prop) (l : Array Bool) (v : World) : Prop := (l.getD p false = true → ∀ i, i < p → l.getD i false = true) ∧ (l.getD p false = false → R v) ∧ (l.getD p false = true → R' v)
theorem S1.start (n p : Nat) {R R' : World → Prop} {v : World} (h : R v) : S1 p R R' (Array.replicate n false) v := by
 have e : ∀ j, (Array.replicate n false).getD j false = false := fun j => by
  rw [Array.getD_eq_getD_getElem?, Array.getElem?_replicate]; split <;> rfl
 exact ⟨(fun h => absurd h (by rw [e]; simp)), (fun _ => h), (fun h => absurd h (by rw [e]; simp))⟩
theorem S1.low {p : Nat} {R R' : World → Prop} {l : Array Bool} {v : World} (h : S1 p R R' l v) {i : Nat} (hi : i < p) (hu : l.getD i true = false) : l.getD p false = false ∧ R v := by
 cases e : l.getD p false with
 |true => exact (xq hu (h.1 e i hi)).elim
 |false => exact ⟨rfl, h.2.1 e⟩
theorem S1.put {p : Nat} {R R' : World → Prop} {l : Array Bool} {v v' : World} (h : S1 p R R' l v) {i : Nat} (hi : i < p) (hu : l.getD i true = false) (hv : R v') : S1 p R R' (l.setIfInBounds i true) v' := by
 have h0 := (h.low hi hu).1
 unfold S1
 rw [bq (by omega : i ≠ p), h0]
 exact ⟨(fun e => by cases e), (fun _ => hv), (fun e => by cases e)⟩
theorem S1.last {p : Nat} {R R' : World → Prop} {l : Array Bool} {v : World} (h : S1 p R R' l v) (hs : p < l.size) (hu : l.getD p true = false) (hd : ∀ i, i < p → l.getD i false = true) : R v ∧ ∀ v', R' v' → S1 p R R' (l.setIfInBounds p true) v' := by
 refine ⟨h.2.1 (fF hu), fun v' hv => ?_⟩
 unfold S1
 rw [iR hs]
 exact ⟨(fun _ j hj => ow (hd j hj)), (fun e => by cases e), (fun _ => hv)⟩
def Vf (n : Nat) (f : Nat → Value) (i : Nat) (_ : World) (x : Value) : Prop := i < n → x = f i
end
end Go.Proofs.YtkfbbdhidecefaaDoor
