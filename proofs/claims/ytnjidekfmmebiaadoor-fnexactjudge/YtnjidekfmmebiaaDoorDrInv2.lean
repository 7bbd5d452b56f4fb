/- A region whose order is drawn: of each operation that has come up its value is told, whatever else has come up. -/
import Derived.Test.YtnjidekfmmebiaaDoorDrInv
import Derived.WalkKit
import Derived.RegionTactic
set_option linter.unusedVariables false
namespace Go.Proofs.YtnjidekfmmebiaaDoor
open Go

/-- Each operation waits only for earlier ones. -/
def early (ops : Array Oper) : Bool := (List.range ops.size).all fun i => match ops[i]? with | some o => o.after.all fun e => !Region.binds .any e || decide (e.on < i) | none => true
theorem all_listed {ops : Array Oper} {listed : Array Bool} (he : early ops = true) (hs : listed.size = ops.size) (hr : Region.ready .any ops listed = []) : ∀ i, i < ops.size → listed.getD i true = true := by
  intro i
  induction i using Nat.strongRecOn with
  | ind i ih =>
    intro hi
    cases hb : listed.getD i true with
    | true => rfl
    | false =>
      exfalso
      have hm : i ∈ Region.ready .any ops listed := by
        unfold Region.ready
        rw [List.mem_filter]
        refine ⟨List.mem_range.2 hi, ?_⟩
        have ho : ops[i]? = some ops[i] := Array.getElem?_eq_getElem hi
        rw [hb, ho]
        simp only [Bool.not_false, Bool.true_and, Option.map_some, Option.getD_some, Array.all_eq_true']
        intro e hee
        have h1 := List.all_eq_true.1 he i (List.mem_range.2 hi)
        rw [ho] at h1
        have h2 := Array.all_eq_true'.1 h1 e hee
        cases hbd : Region.binds .any e with
        | false => simp
        | true =>
          rw [hbd] at h2
          have h2' : e.on < i := by simpa using h2
          have h3 := ih e.on h2' (by omega)
          have h4 : listed.getD e.on false = true := by
            have hl : e.on < listed.size := by omega
            rw [Array.getD_eq_getD_getElem?, Array.getElem?_eq_getElem hl] at h3 ⊢
            exact h3
          rw [h4, Bool.or_true]
      rw [hr] at hm
      cases hm
/-- A ready operation's earlier ones have come up. -/
theorem ready_dep {md : Region.Mode} {ops : Array Oper} {listed : Array Bool} {i : Nat} {o : Oper} (h : i ∈ Region.ready md ops listed) (ho : ops[i]? = some o) : ∀ e ∈ o.after, Region.binds md e = true → listed.getD e.on false = true := by
  unfold Region.ready at h
  simp only [List.mem_filter, ho, Option.map_some, Option.getD_some, Bool.and_eq_true, Array.all_eq_true'] at h
  intro e he hb
  have := h.2.2 e he
  rw [hb] at this
  simpa using this

theorem set_other {l : Array Bool} {i j : Nat} (h : i ≠ j) (b : Bool) : (l.setIfInBounds i true).getD j b = l.getD j b := by
  rw [Array.getD_eq_getD_getElem?, Array.getElem?_setIfInBounds, if_neg h, Array.getD_eq_getD_getElem?]
theorem set_same {l : Array Bool} {i : Nat} (h : i < l.size) : (l.setIfInBounds i true).getD i false = true := by
  rw [Array.getD_eq_getD_getElem?, Array.getElem?_setIfInBounds, if_pos rfl, if_pos h]; rfl
theorem getD_tr {l : Array Bool} {j : Nat} (h : l.getD j false = true) : l.getD j true = true := by
  rw [Array.getD_eq_getD_getElem?] at *
  cases e : l[j]? with
  | none => rw [e] at h; simp at h
  | some b => rw [e] at h; simpa using h
theorem getD_fl {l : Array Bool} {j : Nat} (h : l.getD j true = false) : l.getD j false = false := by
  rw [Array.getD_eq_getD_getElem?] at *
  cases e : l[j]? with
  | none => rfl
  | some b => rw [e] at h; simpa using h
structure Inv (n : Nat) (d : Nat → Nat) (V : Nat → World → Value → Prop) (S : Array Bool → World → Prop) (a0 : Act) (listed : Array Bool) (a : Act) (w : World) : Prop where
  lsize : listed.size = n
  size : a.tmps.size = a0.tmps.size
  keep : ∀ t, (∀ i, i < n → t ≠ d i) → a.eval (.tmp t) = a0.eval (.tmp t)
  defers : a.defers = a0.defers
  s : S listed w
  vals : ∀ i, i < n → listed.getD i true = true → V i w (a.eval (.tmp (d i)))
theorem Inv.start {n : Nat} {d : Nat → Nat} {V : Nat → World → Value → Prop} {S : Array Bool → World → Prop} {a0 : Act} {w : World} (h : S (Array.replicate n false) w) : Inv n d V S a0 (Array.replicate n false) a0 w :=
  ⟨by simp, rfl, fun _ _ => rfl, rfl, h, fun i hi hl => by rw [Array.getD_eq_getD_getElem?, Array.getElem?_replicate, if_pos hi] at hl; simp at hl⟩
theorem Inv.put1 {n : Nat} {d : Nat → Nat} {V : Nat → World → Value → Prop} {S : Array Bool → World → Prop} {a0 : Act} {listed : Array Bool} {a : Act} {w w' : World} (h : Inv n d V S a0 listed a w) (hd : ∀ i j, i < n → j < n → d i = d j → i = j) 
    {i : Nat} (hsz : d i < a0.tmps.size) (hV : ∀ i v, V i w v → V i w' v) (hS : S (listed.setIfInBounds i true) w') (hi : i < n) {v : Value} (hv : V i w' v) : Inv n d V S a0 (listed.setIfInBounds i true) (a.put (some (d i)) v) w' := by
  have hput : ∀ t, (a.put (some (d i)) v).eval (.tmp t) = if t = d i then v else a.eval (.tmp t) := by
    intro t
    show (a.tmps.setIfInBounds (d i) v).getD t undef = _
    rw [Array.getD_eq_getD_getElem?, Array.getElem?_setIfInBounds]
    by_cases e : d i = t
    · subst e
      rw [if_pos rfl, if_pos rfl, if_pos (by rw [h.size]; exact hsz)]; rfl
    · rw [if_neg e, if_neg (fun x => e x.symm)]
      show _ = a.tmps.getD t undef
      rw [Array.getD_eq_getD_getElem?]
  refine ⟨by simp [h.lsize], by show (a.tmps.setIfInBounds (d i) v).size = _; rw [Array.size_setIfInBounds]; exact h.size, fun t ht => ?_, h.defers, hS, fun j hj hl => ?_⟩
  · rw [hput, if_neg (ht i hi)]; exact h.keep t ht
  · rw [hput]
    by_cases e : d j = d i
    · rw [if_pos e]
      rw [hd j i hj hi e]
      exact hv
    · rw [if_neg e]
      refine hV j _ (h.vals j hj ?_)
      have hne : ¬ i = j := fun x => e (by rw [x])
      rw [Array.getD_eq_getD_getElem?, Array.getElem?_setIfInBounds, if_neg hne] at hl
      rw [Array.getD_eq_getD_getElem?]; exact hl
theorem Inv.put {n : Nat} {d : Nat → Nat} {V : Nat → World → Value → Prop} {S : Array Bool → World → Prop} {a0 : Act} {listed : Array Bool} {a : Act} {w w' : World} (h : Inv n d V S a0 listed a w) (hd : ∀ i j, i < n → j < n → d i = d j → i = j) (hsz : ∀ i, i < n → d i < a0.tmps.size)
    {i : Nat} (hV : ∀ i v, V i w v → V i w' v) (hS : S (listed.setIfInBounds i true) w') (hi : i < n) {v : Value} (hv : V i w' v) : Inv n d V S a0 (listed.setIfInBounds i true) (a.put (some (d i)) v) w' :=
  h.put1 hd (hsz i hi) hV hS hi hv
/-- An operation without a slot (a store): its place d i is a slot that none writes. -/
theorem Inv.none {n : Nat} {d : Nat → Nat} {V : Nat → World → Value → Prop} {S : Array Bool → World → Prop} {a0 : Act} {listed : Array Bool} {a : Act} {w w' : World} (h : Inv n d V S a0 listed a w)
    {i : Nat} (hV : ∀ i v, V i w v → V i w' v) (hS : S (listed.setIfInBounds i true) w') (hi : i < n) (hv : ∀ v, V i w' v) : Inv n d V S a0 (listed.setIfInBounds i true) a w' := by
  refine ⟨by simp [h.lsize], h.size, h.keep, h.defers, hS, fun j hj hl => ?_⟩
  by_cases e : i = j
  · subst e; exact hv _
  · refine hV j _ (h.vals j hj ?_)
    rw [Array.getD_eq_getD_getElem?, Array.getElem?_setIfInBounds, if_neg e] at hl
    rw [Array.getD_eq_getD_getElem?]; exact hl
/-- What a slot holds, as the walk's simp writes it. -/
theorem eval_getD {a : Act} {t : Nat} {v : Value} (h : a.eval (.tmp t) = v) : a.tmps[t]?.getD undef = v := by
  have : a.tmps.getD t undef = v := h
  rwa [Array.getD_eq_getD_getElem?] at this
/-- The slots of the operations, put one behind the other. -/
def puts (a0 : Act) (d : Nat → Nat) (f : Nat → Value) : Nat → Act
  | 0 => a0
  | n + 1 => (puts a0 d f n).put (some (d n)) (f n)
theorem puts_eval (a0 a : Act) (d : Nat → Nat) (hs : a.tmps.size = a0.tmps.size) : ∀ n, (puts a0 d (fun i => a.eval (.tmp (d i))) n).tmps.size = a0.tmps.size ∧ (puts a0 d (fun i => a.eval (.tmp (d i))) n).defers = a0.defers ∧
    ∀ t, t < a0.tmps.size → ((∃ i, i < n ∧ d i = t) → (puts a0 d (fun i => a.eval (.tmp (d i))) n).eval (.tmp t) = a.eval (.tmp t)) ∧ ((∀ i, i < n → d i ≠ t) → (puts a0 d (fun i => a.eval (.tmp (d i))) n).eval (.tmp t) = a0.eval (.tmp t))
  | 0 => ⟨rfl, rfl, fun t _ => ⟨fun ⟨i, hi, _⟩ => absurd hi (Nat.not_lt_zero _), fun _ => rfl⟩⟩
  | n + 1 => by
    obtain ⟨h1, h2, h3⟩ := puts_eval a0 a d hs n
    have hput : ∀ t, t < a0.tmps.size → (puts a0 d (fun i => a.eval (.tmp (d i))) (n + 1)).eval (.tmp t) = if t = d n then a.eval (.tmp (d n)) else (puts a0 d (fun i => a.eval (.tmp (d i))) n).eval (.tmp t) := by
      intro t ht
      show ((puts a0 d (fun i => a.eval (.tmp (d i))) n).tmps.setIfInBounds (d n) (a.eval (.tmp (d n)))).getD t undef = _
      rw [Array.getD_eq_getD_getElem?, Array.getElem?_setIfInBounds]
      by_cases e : d n = t
      · subst e
        rw [if_pos rfl, if_pos rfl, if_pos (by rw [h1]; exact ht)]; rfl
      · rw [if_neg e, if_neg (fun x => e x.symm)]
        show _ = (puts a0 d (fun i => a.eval (.tmp (d i))) n).tmps.getD t undef
        rw [Array.getD_eq_getD_getElem?]
    refine ⟨?_, h2, fun t ht => ⟨fun ⟨i, hi, e⟩ => ?_, fun hno => ?_⟩⟩
    · show ((puts a0 d (fun i => a.eval (.tmp (d i))) n).tmps.setIfInBounds (d n) _).size = _
      rw [Array.size_setIfInBounds]; exact h1
    · rw [hput t ht]
      by_cases e2 : t = d n
      · rw [if_pos e2, e2]
      · rw [if_neg e2]
        refine (h3 t ht).1 ⟨i, ?_, e⟩
        rcases Nat.lt_or_ge i n with h | h
        · exact h
        · have : i = n := by omega
          subst this; exact absurd e.symm e2
    · rw [hput t ht, if_neg (fun e => hno n (Nat.lt_succ_self n) e.symm)]
      exact (h3 t ht).2 fun i hi => hno i (by omega)
/-- The state behind a region, written out. -/
theorem act_puts {a0 a : Act} {d : Nat → Nat} {n : Nat} (hs : a.tmps.size = a0.tmps.size) (hd : a.defers = a0.defers) (hk : ∀ t, (∀ i, i < n → t ≠ d i) → a.eval (.tmp t) = a0.eval (.tmp t)) : a = puts a0 d (fun i => a.eval (.tmp (d i))) n := by
  obtain ⟨h1, h2, h3⟩ := puts_eval a0 a d hs n
  have hev : ∀ t, t < a0.tmps.size → (puts a0 d (fun i => a.eval (.tmp (d i))) n).eval (.tmp t) = a.eval (.tmp t) := by
    intro t ht
    by_cases e : ∃ i, i < n ∧ d i = t
    · exact (h3 t ht).1 e
    · rw [(h3 t ht).2 (fun i hi e2 => e ⟨i, hi, e2⟩)]
      exact (hk t fun i hi e2 => e ⟨i, hi, e2.symm⟩).symm
  generalize puts a0 d (fun i => a.eval (.tmp (d i))) n = b at *
  obtain ⟨ta, da⟩ := a
  obtain ⟨tb, db⟩ := b
  simp only at h1 h2 hs hd hev
  have ht : ta = tb := by
    apply Array.ext (by omega)
    intro i hi1 hi2
    have := hev i (by omega)
    simp only [Act.eval, Array.getD_eq_getD_getElem?, hi1, hi2, Array.getElem?_eq_getElem, Option.getD_some] at this
    exact this.symm
  rw [ht, hd, h2]
/-- S may tell otherwise of the world once an operation (a store) has come up. The region, by the invariant: each operation, whenever it comes up; then what follows. -/
theorem wp_region_inv {P : Program} {ops : Array Oper} {Q : Exit → Act → World → Prop} {id : Nat} {a0 : Act} {w0 : World} (hm : P.follows .mixedOrders = true) (he : early ops = true) (d : Nat → Nat) (V : Nat → World → Value → Prop) (S : Array Bool → World → Prop) (hS : S (Array.replicate ops.size false) w0.drew)
    (hstep : ∀ (listed : Array Bool) (a : Act) (w : World) (i : Nat), Inv ops.size d V S a0 listed a w → i ∈ Region.ready .any ops listed → wpOp P ops Q i (fun a' w' => Inv ops.size d V S a0 (listed.setIfInBounds i true) a' w') a w)
    (hend : ∀ (a : Act) (w : World), a.tmps.size = a0.tmps.size → a.defers = a0.defers → (∀ t, (∀ i, i < ops.size → t ≠ d i) → a.eval (.tmp t) = a0.eval (.tmp t)) → (∃ listed : Array Bool, listed.size = ops.size ∧ S listed w ∧ ∀ i, i < ops.size → listed.getD i true = true) → (∀ i, i < ops.size → V i w (a.eval (.tmp (d i)))) → Q .normal a w) : (Code.region id ops true).wp P Q a0 w0 := by
  refine wp_region_any hm ?_
  refine wpAny_inv (Inv ops.size d V S a0) hstep (fun listed a w hI hr => hend a w hI.size hI.defers hI.keep ⟨listed, hI.lsize, hI.s, all_listed he hI.lsize hr⟩ fun i hi => hI.vals i hi (all_listed he hI.lsize hr i hi)) ops.size _ a0 _ ?_ (Inv.start hS)
  unfold unl
  exact Nat.le_trans List.countP_le_length (by simp)
theorem wpOp_of {P : Program} {ops : Array Oper} {Q : Exit → Act → World → Prop} {K : Act → World → Prop} {a : Act} {w : World} {i : Nat} {o : Oper} (hi : ops[i]? = some o) (hg : o.guard = none) (h : o.wp P a w K Q) : wpOp P ops Q i K a w := by
  unfold wpOp
  rw [hi]
  have : Region.wanted o (yielded ops a.tmps) = true := by simp [Region.wanted, hg]
  simp only [this, if_true]
  exact .inl h
/-- An operation behind a guard that holds. -/
theorem wpOp_want {P : Program} {ops : Array Oper} {Q : Exit → Act → World → Prop} {K : Act → World → Prop} {a : Act} {w : World} {i j d : Nat} {b : Bool} {o : Oper} (hi : ops[i]? = some o) (hg : o.guard = some (j, b)) (hj : (ops[j]?).bind (·.dst) = some d) (hv : a.eval (.tmp d) = .bool b) (h : o.wp P a w K Q) : wpOp P ops Q i K a w := by
  unfold wpOp
  rw [hi]
  have hd : a.tmps[d]? = some (.bool b) := by
    have h1 := eval_getD hv
    cases e : a.tmps[d]? with
    | none => rw [e] at h1; exact absurd h1 (by simp [undef])
    | some x => rw [e] at h1; rw [show x = .bool b from h1]
  have : Region.wanted o (yielded ops a.tmps) = true := by simp [Region.wanted, hg, yielded, hj, hd]
  simp only [this, if_true]
  exact .inl h
end Go.Proofs.YtnjidekfmmebiaaDoor
