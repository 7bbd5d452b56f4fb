/- A region whose order is drawn, by an invariant: what holds of each operation that has come up, in whatever order they come up. -/
import Derived.Orders
import Derived.WalkKit
import Derived.Below
import Derived.RegionTactic
import Derived.Test.YtjgbjahcnnjfpaaDoorMaA
import Derived.WalkSpells
import Derived.WalkSmall
import Derived.Test.YtjgbjahcnnjfpaaDoorShelf
import Derived.StillTailTactics
import Derived.BigRegion
import Derived.Deep.RegionWith
set_option linter.unusedVariables false
namespace Go.Proofs.YtjgbjahcnnjfpaaDoor
open Go

def unl (ops : Array Oper) (listed : Array Bool) : Nat := (List.range ops.size).countP fun i => !listed.getD i true
theorem ready_unl {md : Region.Mode} {ops : Array Oper} {listed : Array Bool} {i : Nat} (h : i ∈ Region.ready md ops listed) : i < ops.size ∧ listed.getD i true = false := by
  unfold Region.ready at h
  simp only [List.mem_filter, List.mem_range, Bool.and_eq_true, Bool.not_eq_true'] at h
  exact ⟨h.1, h.2.1⟩
theorem unl_pos {md : Region.Mode} {ops : Array Oper} {listed : Array Bool} {i : Nat} (h : i ∈ Region.ready md ops listed) : 0 < unl ops listed := by
  obtain ⟨h1, h2⟩ := ready_unl h
  unfold unl
  rw [List.countP_pos_iff]
  exact ⟨i, List.mem_range.2 h1, by simp [h2]⟩
theorem unl_set {md : Region.Mode} {ops : Array Oper} {listed : Array Bool} {i : Nat} (h : i ∈ Region.ready md ops listed) : unl ops (listed.setIfInBounds i true) < unl ops listed := by
  obtain ⟨h1, h2⟩ := ready_unl h
  have hlt : i < listed.size := by
    rcases Nat.lt_or_ge i listed.size with h | h
    · exact h
    · rw [Array.getD_eq_getD_getElem?, Array.getElem?_eq_none h] at h2; simp at h2
  unfold unl
  have hle : ∀ j, (!(listed.setIfInBounds i true).getD j true) = true → (!listed.getD j true) = true := by
    intro j hj
    rw [Array.getD_eq_getD_getElem?, Array.getElem?_setIfInBounds] at hj
    split at hj
    · rename_i e; simp at hj
    · rw [Array.getD_eq_getD_getElem?]; exact hj
  have hi : (!(listed.setIfInBounds i true).getD i true) = false := by
    rw [Array.getD_eq_getD_getElem?, Array.getElem?_setIfInBounds]; simp [hlt]
  have hi' : (!listed.getD i true) = true := by simp [h2]
  have hmem : i ∈ List.range ops.size := List.mem_range.2 h1
  revert hmem
  generalize List.range ops.size = l
  intro hmem
  induction l with
  | nil => cases hmem
  | cons x l ih =>
    have hmono := List.countP_mono_left (l := l) (fun j _ hj => hle j hj)
    simp only [List.countP_cons]
    rcases List.mem_cons.1 hmem with e | hm
    · subst e
      rw [hi, hi']
      simp only [Bool.false_eq_true, if_false, if_true]
      omega
    · have := ih hm
      have hx := hle x
      by_cases hb : (!(listed.setIfInBounds i true).getD x true) = true
      · rw [if_pos hb, if_pos (hx hb)]; omega
      · rw [if_neg hb]; omega
theorem wpAny_inv {P : Program} {ops : Array Oper} {Q : Exit → Act → World → Prop} {md : Region.Mode} (I : Array Bool → Act → World → Prop)
    (hstep : ∀ (listed : Array Bool) (a : Act) (w : World) (i : Nat), I listed a w → i ∈ Region.ready md ops listed → wpOp P ops Q i (fun a' w' => I (listed.setIfInBounds i true) a' w') a w)
    (hend : ∀ (listed : Array Bool) (a : Act) (w : World), I listed a w → Region.ready md ops listed = [] → Q .normal a w) :
    ∀ (fuel : Nat) (listed : Array Bool) (a : Act) (w : World), unl ops listed ≤ fuel → I listed a w → wpAny P md ops Q fuel listed a w := by
  intro fuel
  induction fuel with
  | zero =>
    intro listed a w hu hI
    have hr : Region.ready md ops listed = [] := by
      cases h : Region.ready md ops listed with
      | nil => rfl
      | cons i l => have := unl_pos (show i ∈ Region.ready md ops listed by rw [h]; simp); omega
    exact ⟨hr, hend _ _ _ hI hr⟩
  | succ fuel ih =>
    intro listed a w hu hI
    refine ⟨fun hr => hend _ _ _ hI hr, fun i hi => ?_⟩
    refine wpOp_mono (fun a' w' h => ih _ a' w' ?_ h) (hstep listed a w i hI hi)
    have := unl_set hi
    omega
end Go.Proofs.YtjgbjahcnnjfpaaDoor
namespace Go.Proofs.YtjgbjahcnnjfpaaDoor
open Go Go.RowKit

def early (ops : Array Oper) : Bool := (List.range ops.size).all fun i => match ops[i]? with | some o => o.after.all fun e => !Region.binds .any e || decide (e.on < i) | none => true
theorem all_listed {ops : Array Oper} {listed : Array Bool} (he : early ops = true) (hs : listed.size = ops.size) (hr : Region.ready .any ops listed = []) : ∀ i, i < ops.size → listed.getD i true = true := by
  intro i
  induction i using Nat.strongRecOn with
  | ind i ih =>
    intro hi
    cases hb : listed.getD i true with
    | true => rfl
    | false =>
      exfalso
      have hm : i ∈ Region.ready .any ops listed := by
        unfold Region.ready
        rw [List.mem_filter]
        refine ⟨List.mem_range.2 hi, ?_⟩
        have ho : ops[i]? = some ops[i] := Array.getElem?_eq_getElem hi
        rw [hb, ho]
        simp only [Bool.not_false, Bool.true_and, Option.map_some, Option.getD_some, Array.all_eq_true']
        intro e hee
        have h1 := List.all_eq_true.1 he i (List.mem_range.2 hi)
        rw [ho] at h1
        have h2 := Array.all_eq_true'.1 h1 e hee
        cases hbd : Region.binds .any e with
        | false => simp
        | true =>
          rw [hbd] at h2
          have h2' : e.on < i := by simpa using h2
          have h3 := ih e.on h2' (by omega)
          have h4 : listed.getD e.on false = true := by
            have hl : e.on < listed.size := by omega
            rw [Array.getD_eq_getD_getElem?, Array.getElem?_eq_getElem hl] at h3 ⊢
            exact h3
          rw [h4, Bool.or_true]
      rw [hr] at hm
      cases hm
theorem ready_dep {md : Region.Mode} {ops : Array Oper} {listed : Array Bool} {i : Nat} {o : Oper} (h : i ∈ Region.ready md ops listed) (ho : ops[i]? = some o) : ∀ e ∈ o.after, Region.binds md e = true → listed.getD e.on false = true := by
  unfold Region.ready at h
  simp only [List.mem_filter, ho, Option.map_some, Option.getD_some, Bool.and_eq_true, Array.all_eq_true'] at h
  intro e he hb
  have := h.2.2 e he
  rw [hb] at this
  simpa using this
theorem dep_hid {md : Region.Mode} {ops : Array Oper} {l : Array Bool} {i : Nat} (h : i ∈ Region.ready md ops l) : Hid (∀ o, ops[i]? = some o → ∀ e ∈ o.after, Region.binds md e = true → l.getD e.on false = true) := fun _ ho => ready_dep h ho
theorem dep_val {ops : Array Oper} {md : Region.Mode} {l : Array Bool} {i n : Nat} {Q : Nat → Prop} (V : Hid (∀ j, j < n → l.getD j false = true → Q j)) (D : Hid (∀ o, ops[i]? = some o → ∀ e ∈ o.after, Region.binds md e = true → l.getD e.on false = true)) (j : Nat) {o : Oper} (h : ops[i]? = some o) (h1 : j < n := by omega) (h2 : (⟨j, Ground.data⟩ : Edge) ∈ o.after := by simp) (h3 : Region.binds md ⟨j, Ground.data⟩ = true := by rfl) : Q j := V.out j h1 (D.out o h ⟨j, Ground.data⟩ h2 h3)

theorem set_other {l : Array Bool} {i j : Nat} (h : i ≠ j) (b : Bool) : (l.setIfInBounds i true).getD j b = l.getD j b := by
  rw [Array.getD_eq_getD_getElem?, Array.getElem?_setIfInBounds, if_neg h, Array.getD_eq_getD_getElem?]
theorem set_same {l : Array Bool} {i : Nat} (h : i < l.size) : (l.setIfInBounds i true).getD i false = true := by
  rw [Array.getD_eq_getD_getElem?, Array.getElem?_setIfInBounds, if_pos rfl, if_pos h]; rfl
theorem getD_tr {l : Array Bool} {j : Nat} (h : l.getD j false = true) : l.getD j true = true := by
  rw [Array.getD_eq_getD_getElem?] at *
  cases e : l[j]? with
  | none => rw [e] at h; simp at h
  | some b => rw [e] at h; simpa using h
theorem getD_fl {l : Array Bool} {j : Nat} (h : l.getD j true = false) : l.getD j false = false := by
  rw [Array.getD_eq_getD_getElem?] at *
  cases e : l[j]? with
  | none => rfl
  | some b => rw [e] at h; simpa using h
structure Inv (n : Nat) (d : Nat → Nat) (V : Nat → World → Value → Prop) (S : Array Bool → World → Prop) (a0 : Act) (listed : Array Bool) (a : Act) (w : World) : Prop where
  lsize : listed.size = n
  size : a.tmps.size = a0.tmps.size
  keep : ∀ t, (∀ i, i < n → t ≠ d i) → a.eval (.tmp t) = a0.eval (.tmp t)
  defers : a.defers = a0.defers
  s : S listed w
  vals : ∀ i, i < n → listed.getD i true = true → V i w (a.eval (.tmp (d i)))
theorem Inv.start {n : Nat} {d : Nat → Nat} {V : Nat → World → Value → Prop} {S : Array Bool → World → Prop} {a0 : Act} {w : World} (h : S (Array.replicate n false) w) : Inv n d V S a0 (Array.replicate n false) a0 w :=
  ⟨by simp, rfl, fun _ _ => rfl, rfl, h, fun i hi hl => by rw [Array.getD_eq_getD_getElem?, Array.getElem?_replicate, if_pos hi] at hl; simp at hl⟩
theorem Inv.put1 {n : Nat} {d : Nat → Nat} {V : Nat → World → Value → Prop} {S : Array Bool → World → Prop} {a0 : Act} {listed : Array Bool} {a : Act} {w w' : World} (h : Inv n d V S a0 listed a w) (hd : ∀ i j, i < n → j < n → d i = d j → i = j) 
    {i : Nat} (hsz : d i < a0.tmps.size) (hV : ∀ i v, V i w v → V i w' v) (hS : S (listed.setIfInBounds i true) w') (hi : i < n) {v : Value} (hv : V i w' v) : Inv n d V S a0 (listed.setIfInBounds i true) (a.put (some (d i)) v) w' := by
  have hput : ∀ t, (a.put (some (d i)) v).eval (.tmp t) = if t = d i then v else a.eval (.tmp t) := by
    intro t
    show (a.tmps.setIfInBounds (d i) v).getD t undef = _
    rw [Array.getD_eq_getD_getElem?, Array.getElem?_setIfInBounds]
    by_cases e : d i = t
    · subst e
      rw [if_pos rfl, if_pos rfl, if_pos (by rw [h.size]; exact hsz)]; rfl
    · rw [if_neg e, if_neg (fun x => e x.symm)]
      show _ = a.tmps.getD t undef
      rw [Array.getD_eq_getD_getElem?]
  refine ⟨by simp [h.lsize], by show (a.tmps.setIfInBounds (d i) v).size = _; rw [Array.size_setIfInBounds]; exact h.size, fun t ht => ?_, h.defers, hS, fun j hj hl => ?_⟩
  · rw [hput, if_neg (ht i hi)]; exact h.keep t ht
  · rw [hput]
    by_cases e : d j = d i
    · rw [if_pos e]
      rw [hd j i hj hi e]
      exact hv
    · rw [if_neg e]
      refine hV j _ (h.vals j hj ?_)
      have hne : ¬ i = j := fun x => e (by rw [x])
      rw [Array.getD_eq_getD_getElem?, Array.getElem?_setIfInBounds, if_neg hne] at hl
      rw [Array.getD_eq_getD_getElem?]; exact hl
theorem Inv.put {n : Nat} {d : Nat → Nat} {V : Nat → World → Value → Prop} {S : Array Bool → World → Prop} {a0 : Act} {listed : Array Bool} {a : Act} {w w' : World} (h : Inv n d V S a0 listed a w) (hd : ∀ i j, i < n → j < n → d i = d j → i = j) (hsz : ∀ i, i < n → d i < a0.tmps.size)
    {i : Nat} (hV : ∀ i v, V i w v → V i w' v) (hS : S (listed.setIfInBounds i true) w') (hi : i < n) {v : Value} (hv : V i w' v) : Inv n d V S a0 (listed.setIfInBounds i true) (a.put (some (d i)) v) w' :=
  h.put1 hd (hsz i hi) hV hS hi hv
theorem Inv.none {n : Nat} {d : Nat → Nat} {V : Nat → World → Value → Prop} {S : Array Bool → World → Prop} {a0 : Act} {listed : Array Bool} {a : Act} {w w' : World} (h : Inv n d V S a0 listed a w)
    {i : Nat} (hV : ∀ i v, V i w v → V i w' v) (hS : S (listed.setIfInBounds i true) w') (hi : i < n) (hv : ∀ v, V i w' v) : Inv n d V S a0 (listed.setIfInBounds i true) a w' := by
  refine ⟨by simp [h.lsize], h.size, h.keep, h.defers, hS, fun j hj hl => ?_⟩
  by_cases e : i = j
  · subst e; exact hv _
  · refine hV j _ (h.vals j hj ?_)
    rw [Array.getD_eq_getD_getElem?, Array.getElem?_setIfInBounds, if_neg e] at hl
    rw [Array.getD_eq_getD_getElem?]; exact hl
theorem eval_getD {a : Act} {t : Nat} {v : Value} (h : a.eval (.tmp t) = v) : a.tmps[t]?.getD undef = v := by
  have : a.tmps.getD t undef = v := h
  rwa [Array.getD_eq_getD_getElem?] at this
def puts (a0 : Act) (d : Nat → Nat) (f : Nat → Value) : Nat → Act
  | 0 => a0
  | n + 1 => (puts a0 d f n).put (some (d n)) (f n)
theorem puts_eval (a0 a : Act) (d : Nat → Nat) (hs : a.tmps.size = a0.tmps.size) : ∀ n, (puts a0 d (fun i => a.eval (.tmp (d i))) n).tmps.size = a0.tmps.size ∧ (puts a0 d (fun i => a.eval (.tmp (d i))) n).defers = a0.defers ∧
    ∀ t, t < a0.tmps.size → ((∃ i, i < n ∧ d i = t) → (puts a0 d (fun i => a.eval (.tmp (d i))) n).eval (.tmp t) = a.eval (.tmp t)) ∧ ((∀ i, i < n → d i ≠ t) → (puts a0 d (fun i => a.eval (.tmp (d i))) n).eval (.tmp t) = a0.eval (.tmp t))
  | 0 => ⟨rfl, rfl, fun t _ => ⟨fun ⟨i, hi, _⟩ => absurd hi (Nat.not_lt_zero _), fun _ => rfl⟩⟩
  | n + 1 => by
    obtain ⟨h1, h2, h3⟩ := puts_eval a0 a d hs n
    have hput : ∀ t, t < a0.tmps.size → (puts a0 d (fun i => a.eval (.tmp (d i))) (n + 1)).eval (.tmp t) = if t = d n then a.eval (.tmp (d n)) else (puts a0 d (fun i => a.eval (.tmp (d i))) n).eval (.tmp t) := by
      intro t ht
      show ((puts a0 d (fun i => a.eval (.tmp (d i))) n).tmps.setIfInBounds (d n) (a.eval (.tmp (d n)))).getD t undef = _
      rw [Array.getD_eq_getD_getElem?, Array.getElem?_setIfInBounds]
      by_cases e : d n = t
      · subst e
        rw [if_pos rfl, if_pos rfl, if_pos (by rw [h1]; exact ht)]; rfl
      · rw [if_neg e, if_neg (fun x => e x.symm)]
        show _ = (puts a0 d (fun i => a.eval (.tmp (d i))) n).tmps.getD t undef
        rw [Array.getD_eq_getD_getElem?]
    refine ⟨?_, h2, fun t ht => ⟨fun ⟨i, hi, e⟩ => ?_, fun hno => ?_⟩⟩
    · show ((puts a0 d (fun i => a.eval (.tmp (d i))) n).tmps.setIfInBounds (d n) _).size = _
      rw [Array.size_setIfInBounds]; exact h1
    · rw [hput t ht]
      by_cases e2 : t = d n
      · rw [if_pos e2, e2]
      · rw [if_neg e2]
        refine (h3 t ht).1 ⟨i, ?_, e⟩
        rcases Nat.lt_or_ge i n with h | h
        · exact h
        · have : i = n := by omega
          subst this; exact absurd e.symm e2
    · rw [hput t ht, if_neg (fun e => hno n (Nat.lt_succ_self n) e.symm)]
      exact (h3 t ht).2 fun i hi => hno i (by omega)
theorem act_puts {a0 a : Act} {d : Nat → Nat} {n : Nat} (hs : a.tmps.size = a0.tmps.size) (hd : a.defers = a0.defers) (hk : ∀ t, (∀ i, i < n → t ≠ d i) → a.eval (.tmp t) = a0.eval (.tmp t)) : a = puts a0 d (fun i => a.eval (.tmp (d i))) n := by
  obtain ⟨h1, h2, h3⟩ := puts_eval a0 a d hs n
  have hev : ∀ t, t < a0.tmps.size → (puts a0 d (fun i => a.eval (.tmp (d i))) n).eval (.tmp t) = a.eval (.tmp t) := by
    intro t ht
    by_cases e : ∃ i, i < n ∧ d i = t
    · exact (h3 t ht).1 e
    · rw [(h3 t ht).2 (fun i hi e2 => e ⟨i, hi, e2⟩)]
      exact (hk t fun i hi e2 => e ⟨i, hi, e2.symm⟩).symm
  generalize puts a0 d (fun i => a.eval (.tmp (d i))) n = b at *
  obtain ⟨ta, da⟩ := a
  obtain ⟨tb, db⟩ := b
  simp only at h1 h2 hs hd hev
  have ht : ta = tb := by
    apply Array.ext (by omega)
    intro i hi1 hi2
    have := hev i (by omega)
    simp only [Act.eval, Array.getD_eq_getD_getElem?, hi1, hi2, Array.getElem?_eq_getElem, Option.getD_some] at this
    exact this.symm
  rw [ht, hd, h2]
theorem wp_region_inv {P : Program} {ops : Array Oper} {Q : Exit → Act → World → Prop} {id : Nat} {a0 : Act} {w0 : World} (hm : P.follows .mixedOrders = true) (he : early ops = true) (d : Nat → Nat) (V : Nat → World → Value → Prop) (S : Array Bool → World → Prop) (hS : S (Array.replicate ops.size false) w0.drew)
    (hstep : ∀ (listed : Array Bool) (a : Act) (w : World) (i : Nat), Inv ops.size d V S a0 listed a w → i ∈ Region.ready .any ops listed → wpOp P ops Q i (fun a' w' => Inv ops.size d V S a0 (listed.setIfInBounds i true) a' w') a w)
    (hend : ∀ (a : Act) (w : World), a.tmps.size = a0.tmps.size → a.defers = a0.defers → (∀ t, (∀ i, i < ops.size → t ≠ d i) → a.eval (.tmp t) = a0.eval (.tmp t)) → (∃ listed : Array Bool, listed.size = ops.size ∧ S listed w ∧ ∀ i, i < ops.size → listed.getD i true = true) → (∀ i, i < ops.size → V i w (a.eval (.tmp (d i)))) → Q .normal a w) : (Code.region id ops true).wp P Q a0 w0 := by
  refine wp_region_any hm ?_
  refine wpAny_inv (Inv ops.size d V S a0) hstep (fun listed a w hI hr => hend a w hI.size hI.defers hI.keep ⟨listed, hI.lsize, hI.s, all_listed he hI.lsize hr⟩ fun i hi => hI.vals i hi (all_listed he hI.lsize hr i hi)) ops.size _ a0 _ ?_ (Inv.start hS)
  unfold unl
  exact Nat.le_trans List.countP_le_length (by simp)
theorem wpOp_of {P : Program} {ops : Array Oper} {Q : Exit → Act → World → Prop} {K : Act → World → Prop} {a : Act} {w : World} {i : Nat} {o : Oper} (hi : ops[i]? = some o) (hg : o.guard = none) (h : o.wp P a w K Q) : wpOp P ops Q i K a w := by
  unfold wpOp
  rw [hi]
  have : Region.wanted o (yielded ops a.tmps) = true := by simp [Region.wanted, hg]
  simp only [this, if_true]
  exact .inl h
theorem wpOp_want {P : Program} {ops : Array Oper} {Q : Exit → Act → World → Prop} {K : Act → World → Prop} {a : Act} {w : World} {i j d : Nat} {b : Bool} {o : Oper} (hi : ops[i]? = some o) (hg : o.guard = some (j, b)) (hj : (ops[j]?).bind (·.dst) = some d) (hv : a.eval (.tmp d) = .bool b) (h : o.wp P a w K Q) : wpOp P ops Q i K a w := by
  unfold wpOp
  rw [hi]
  have hd : a.tmps[d]? = some (.bool b) := by
    have h1 := eval_getD hv
    cases e : a.tmps[d]? with
    | none => rw [e] at h1; exact absurd h1 (by simp [undef])
    | some x => rw [e] at h1; rw [show x = .bool b from h1]
  have : Region.wanted o (yielded ops a.tmps) = true := by simp [Region.wanted, hg, yielded, hj, hd]
  simp only [this, if_true]
  exact .inl h
end Go.Proofs.YtjgbjahcnnjfpaaDoor
namespace Go.Proofs.YtjgbjahcnnjfpaaDoor
open Go

theorem set_mono {l : Array Bool} {i j : Nat} (h : l.getD j false = true) : (l.setIfInBounds i true).getD j false = true := by
  by_cases e : i = j
  · subst e
    refine set_same ?_
    rcases Nat.lt_or_ge i l.size with h' | h'
    · exact h'
    · rw [Array.getD_eq_getD_getElem?, Array.getElem?_eq_none h'] at h; simp at h
  · rw [set_other e]; exact h
theorem fl_ne {l : Array Bool} {i : Nat} (h : l.getD i true = false) (h' : l.getD i false = true) : False := by
  rw [getD_tr h'] at h; cases h

def S2 (p m : Nat) (W0 W1 W2 : World) (l : Array Bool) (v : World) : Prop :=
  v = (if l.getD (p + 1) false = true then W2 else if l.getD p false = true then W1 else W0) ∧ (l.getD p false = true → ∀ i, i < m → l.getD i false = true) ∧ (l.getD (p + 1) false = true → ∀ i, i < p + 1 → l.getD i false = true)
theorem S2.start (n p m : Nat) (W0 W1 W2 : World) : S2 p m W0 W1 W2 (Array.replicate n false) W0 := by
  have h : ∀ j, (Array.replicate n false).getD j false = false := fun j => by
    rw [Array.getD_eq_getD_getElem?, Array.getElem?_replicate]; split <;> rfl
  exact ⟨(by rw [h, h]; simp), (fun e => absurd e (by rw [h]; simp)), (fun e => absurd e (by rw [h]; simp))⟩
theorem S2.low {p m : Nat} {W0 W1 W2 : World} {l : Array Bool} {v : World} (h : S2 p m W0 W1 W2 l v) {i : Nat} (hi : i < m) (hm : m ≤ p) (hu : l.getD i true = false) : v = W0 := by
  have h1 : ¬ l.getD p false = true := fun e => fl_ne hu (h.2.1 e i hi)
  have h2 : ¬ l.getD (p + 1) false = true := fun e => fl_ne hu (h.2.2 e i (by omega))
  rw [h.1, if_neg h2, if_neg h1]
theorem S2.mid {p m : Nat} {W0 W1 W2 : World} {l : Array Bool} {v : World} (h : S2 p m W0 W1 W2 l v) {i : Nat} (hi : i < p + 1) (hu : l.getD i true = false) : v = W0 ∨ v = W1 := by
  have h2 : ¬ l.getD (p + 1) false = true := fun e => fl_ne hu (h.2.2 e i hi)
  rw [h.1, if_neg h2]
  by_cases e : l.getD p false = true
  · rw [if_pos e]; exact .inr rfl
  · rw [if_neg e]; exact .inl rfl
theorem S2.put {p m : Nat} {W0 W1 W2 : World} {l : Array Bool} {v : World} (h : S2 p m W0 W1 W2 l v) {i : Nat} (hi : i < p) : S2 p m W0 W1 W2 (l.setIfInBounds i true) v := by
  unfold S2
  rw [set_other (by omega : i ≠ p), set_other (by omega : i ≠ p + 1)]
  exact ⟨h.1, fun e j hj => set_mono (h.2.1 e j hj), fun e j hj => set_mono (h.2.2 e j hj)⟩
theorem S2.first {p m : Nat} {W0 W1 W2 : World} {l : Array Bool} {v : World} (h : S2 p m W0 W1 W2 l v) (hs : p < l.size) (hu : l.getD p true = false) (hd : ∀ i, i < m → l.getD i false = true) : v = W0 ∧ S2 p m W0 W1 W2 (l.setIfInBounds p true) W1 := by
  have h1 : ¬ l.getD p false = true := fun e => fl_ne hu e
  have h2 : ¬ l.getD (p + 1) false = true := fun e => fl_ne hu (h.2.2 e p (by omega))
  refine ⟨by rw [h.1, if_neg h2, if_neg h1], ?_⟩
  unfold S2
  rw [set_other (by omega : p ≠ p + 1), set_same hs, if_neg h2]
  exact ⟨by simp, fun _ j hj => set_mono (hd j hj), fun e => absurd e h2⟩
theorem S2.second {p m : Nat} {W0 W1 W2 : World} {l : Array Bool} {v : World} (h : S2 p m W0 W1 W2 l v) (hm : m ≤ p) (hs : p + 1 < l.size) (hu : l.getD (p + 1) true = false) (hd : ∀ i, i < p + 1 → l.getD i false = true) : v = W1 ∧ S2 p m W0 W1 W2 (l.setIfInBounds (p + 1) true) W2 := by
  have h2 : ¬ l.getD (p + 1) false = true := fun e => fl_ne hu e
  refine ⟨by rw [h.1, if_neg h2, if_pos (hd p (by omega))], ?_⟩
  unfold S2
  rw [set_same hs]
  exact ⟨by simp, fun _ j hj => set_mono (hd j (by omega)), fun _ j hj => set_mono (hd j hj)⟩
theorem S2.done {p m : Nat} {W0 W1 W2 : World} {l : Array Bool} {v : World} (h : S2 p m W0 W1 W2 l v) (hd : l.getD (p + 1) false = true) : v = W2 := by rw [h.1, if_pos hd]
def S1 (p : Nat) (R R' : World → Prop) (l : Array Bool) (v : World) : Prop := (l.getD p false = true → ∀ i, i < p → l.getD i false = true) ∧ (l.getD p false = false → R v) ∧ (l.getD p false = true → R' v)
theorem S1.start (n p : Nat) {R R' : World → Prop} {v : World} (h : R v) : S1 p R R' (Array.replicate n false) v := by
  have e : ∀ j, (Array.replicate n false).getD j false = false := fun j => by
    rw [Array.getD_eq_getD_getElem?, Array.getElem?_replicate]; split <;> rfl
  exact ⟨(fun h => absurd h (by rw [e]; simp)), (fun _ => h), (fun h => absurd h (by rw [e]; simp))⟩
theorem S1.low {p : Nat} {R R' : World → Prop} {l : Array Bool} {v : World} (h : S1 p R R' l v) {i : Nat} (hi : i < p) (hu : l.getD i true = false) : l.getD p false = false ∧ R v := by
  cases e : l.getD p false with
  | true => exact (fl_ne hu (h.1 e i hi)).elim
  | false => exact ⟨rfl, h.2.1 e⟩
theorem S1.put {p : Nat} {R R' : World → Prop} {l : Array Bool} {v v' : World} (h : S1 p R R' l v) {i : Nat} (hi : i < p) (hu : l.getD i true = false) (hv : R v') : S1 p R R' (l.setIfInBounds i true) v' := by
  have h0 := (h.low hi hu).1
  unfold S1
  rw [set_other (by omega : i ≠ p), h0]
  exact ⟨(fun e => by cases e), (fun _ => hv), (fun e => by cases e)⟩
theorem S1.last {p : Nat} {R R' : World → Prop} {l : Array Bool} {v : World} (h : S1 p R R' l v) (hs : p < l.size) (hu : l.getD p true = false) (hd : ∀ i, i < p → l.getD i false = true) : R v ∧ ∀ v', R' v' → S1 p R R' (l.setIfInBounds p true) v' := by
  refine ⟨h.2.1 (getD_fl hu), fun v' hv => ?_⟩
  unfold S1
  rw [set_same hs]
  exact ⟨(fun _ j hj => set_mono (hd j hj)), (fun e => by cases e), (fun _ => hv)⟩
def Vf (n : Nat) (f : Nat → Value) (i : Nat) (_ : World) (x : Value) : Prop := i < n → x = f i
end Go.Proofs.YtjgbjahcnnjfpaaDoor
namespace Go.Proofs.YtjgbjahcnnjfpaaDoor
open Go.RowKit

theorem append_freshG {P : Program} (w : World) (base : Nat) (t ty e : TypeId) (i : TypeInfo) (z : Value) (size bytes : Nat) (ht : P.underlying t = some (.slice e)) (hi : P.info? e = some i) (hz : i.zero = some z)
    (hsize : i.size = size) (hby : i.bytes = bytes) (hzs : z.cells.size = size) (hsz : 0 < size) (v : Value) (n : Nat) (xs : List Value) (hown : w.ownsRow base e size v n xs)
    (a : Addr) (m c : Nat) (news : List Value) (hl : news.length = m * size) (hnews : ∀ j u, news[j]? = some u → w.cell? (a.add j) = some u) (h1 : ∀ u ∈ news, u.oneCell' = true) (h63 : n + m ≤ maxLen) (hb : (n + m) * bytes ≤ 140737488355328) (hbase : base ≤ w.heap.size) :
    ∃ v' w', (Builtin.append_ #[t, t] ty #[v, .slice (some a) m c]).run P w = .ok v' w' ∧ w'.ownsRow base e size v' (n + m) (xs ++ news) ∧ w.grownBy w' v.ownBlock ∧ (v'.ownBlock = v.ownBlock ∨ ∃ k, v'.ownBlock = some k ∧ w.heap.size ≤ k) ∧
      ∃ a c, v' = .slice a (n + m) c := by
  obtain ⟨v', w', hr, h2, h3, h4⟩ := run_append_own (P := P) w base t ty e i z size bytes ht hi hz hsize hby hzs hsz v n xs hown a m c news hl hnews h1 h63 hb hbase
  subst hsize
  subst hby
  have hsmall : n + m ≤ 9223372036854775807 := by simp only [maxLen] at h63; omega
  have hsh : ∃ a c, v' = .slice a (n + m) c := by
    rcases h2.2 with ⟨rfl, e⟩ | ⟨g, cap, cur, rfl, _⟩
    · exact ⟨none, 0, by rw [e]⟩
    · exact ⟨_, _, rfl⟩
  refine ⟨v', w', hr, h2, h3, ?_, hsh⟩
  rcases hown.2 with ⟨rfl, rfl⟩ | ⟨g, cap, cur, rfl, hbg, hg, hnc, hcm, hcs, htake⟩
  · by_cases hm : m = 0
    · exact .inl (by rw [h4.2 ⟨rfl, hm⟩])
    · have hr' := run_append_nil (P := P) w t ty e i z ht hi hz a m c news hl hnews (by omega) (by omega) (by have hb := hb; simp only [Nat.zero_add] at hb; omega)
      rw [hr'] at hr
      injection hr with e1 e2
      subst e1
      exact .inr ⟨w.heap.size, rfl, Nat.le_refl _⟩
  · by_cases hroom : n + m ≤ cap
    · have hfit : n * i.size + news.length ≤ cur.size := by rw [hl, hcs, ← Nat.add_mul]; exact Nat.mul_le_mul_right _ hroom
      have hr' := run_append_room (P := P) w t ty e i ht hi g n cap cur hg a m c news hl hnews h1 hroom hfit
      rw [hr'] at hr
      injection hr with e1 e2
      subst e1
      exact .inl rfl
    · have holds : ∀ j u, xs[j]? = some u → w.cell? ((⟨g, 0, none⟩ : Addr).add j) = some u := hown.cells (g := g) rfl
      have hr' := run_append_grow (P := P) w t ty e i z ht hi hz ⟨g, 0, none⟩ n cap xs hown.1 holds a m c news hl hnews (by omega) (by omega) (growslice_fits (by omega) hb)
      rw [hr'] at hr
      injection hr with e1 e2
      subst e1
      exact .inr ⟨w.heap.size, rfl, Nat.le_refl _⟩

theorem wpList_append_freshG {P : Program} (w : World) {ops : Array Oper} {rest : List Oper} {o : Oper} {a : Act} {Q : Exit → Act → World → Prop} (hgd : o.guard = none) (sl x : Operand) (t : TypeId)
    (ho : o.op = .call { callee := .builtin .append, args := #[sl, x], argTypes := #[t, t] })
    (base : Nat) (e : TypeId) (i : TypeInfo) (z : Value) (size bytes : Nat) (ht : P.underlying t = some (.slice e)) (hi : P.info? e = some i) (hz : i.zero = some z)
    (hsize : i.size = size) (hby : i.bytes = bytes) (hzs : z.cells.size = size) (hsz : 0 < size)
    (v : Value) (n : Nat) (xs : List Value) (hs : a.eval sl = v) (hown : w.ownsRow base e size v n xs)
    (ad : Addr) (m c : Nat) (news : List Value) (hx : a.eval x = .slice (some ad) m c) (hl : news.length = m * size) (hnews : ∀ j u, news[j]? = some u → w.cell? (ad.add j) = some u) (h1 : ∀ u ∈ news, u.oneCell' = true)
    (h63 : n + m ≤ maxLen) (hbytes : (n + m) * bytes ≤ 140737488355328) (hbase : base ≤ w.heap.size)
    (h : ∀ v' w', Hid (w'.ownsRow base e size v' (n + m) (xs ++ news)) → Hid (w.grownBy w' v.ownBlock) → Hid (v'.ownBlock = v.ownBlock ∨ ∃ k, v'.ownBlock = some k ∧ w.heap.size ≤ k) → Hid (∃ a c, v' = .slice a (n + m) c) → wpList P ops Q rest (a.put o.dst v') w') : wpList P ops Q (o :: rest) a w := by
  refine wpList_plain hgd fun K hK => ?_
  obtain ⟨v', w', hr, h2, h3, h4, h5⟩ := append_freshG (P := P) w base t o.type e i z size bytes ht hi hz hsize hby hzs hsz v n xs hown ad m c news hl hnews h1 h63 hbytes hbase
  unfold Oper.wp execOp
  simp only [ho, resolve, invoke, builtin, Sem.run_bind, Sem.run_pure, Result.andThen_ok, List.map_toArray, List.map_cons, List.map_nil, hs, hx, hr]
  exact hK _ _ (h v' w' h2 h3 h4 h5)

end Go.Proofs.YtjgbjahcnnjfpaaDoor
namespace Go.Proofs.YtjgbjahcnnjfpaaDoor
open Go.RowKit

def Tr (w : World) : Nd → Nat → Nat → Value → Prop
  | .nil, lo, hi, v => ∃ a cap, v = .slice a 0 cap ∧ (0 ≤ cap ∧ cap ≤ 9223372036854775807)
  | .mk _ _ _ len kids, lo, hi, v => ∃ a cap, v = .slice a len cap ∧ (len ≤ cap ∧ cap ≤ 9223372036854775807) ∧ (len = 0 ∨ ∃ (g : Nat) (s e : Nat → Nat), a = some ⟨g, 0, none⟩ ∧ lo ≤ g ∧ g < hi ∧ (∀ o, w.frozen? ⟨g, o, none⟩ = false) ∧
      (∀ i, i < len → lo ≤ s i ∧ s i ≤ e i ∧ e i ≤ hi ∧ (g < s i ∨ e i ≤ g)) ∧ (∀ i j, i < j → j < len → e i ≤ s j) ∧ ∀ i, i < len →
      ∃ u, w.cell? ⟨g, i * 4, none⟩ = some (.int .i64 (kids i).kind) ∧ w.cell? ⟨g, i * 4 + 1, none⟩ = some (.int .i64 (kids i).num) ∧
        w.cell? ⟨g, i * 4 + 2, none⟩ = some (.string (kids i).name) ∧ w.cell? ⟨g, i * 4 + 3, none⟩ = some u ∧ Tr w (kids i) (s i) (e i) u)
theorem tr_eq {w : World} {T : Nd} {lo hi : Nat} {v : Value} : Tr w T lo hi v ↔ ∃ a cap, v = .slice a T.len cap ∧ (T.len ≤ cap ∧ cap ≤ 9223372036854775807) ∧ (T.len = 0 ∨ ∃ (g : Nat) (s e : Nat → Nat), a = some ⟨g, 0, none⟩ ∧ lo ≤ g ∧ g < hi ∧ (∀ o, w.frozen? ⟨g, o, none⟩ = false) ∧
      (∀ i, i < T.len → lo ≤ s i ∧ s i ≤ e i ∧ e i ≤ hi ∧ (g < s i ∨ e i ≤ g)) ∧ (∀ i j, i < j → j < T.len → e i ≤ s j) ∧ ∀ i, i < T.len →
      ∃ u, w.cell? ⟨g, i * 4, none⟩ = some (.int .i64 (T.kids i).kind) ∧ w.cell? ⟨g, i * 4 + 1, none⟩ = some (.int .i64 (T.kids i).num) ∧
        w.cell? ⟨g, i * 4 + 2, none⟩ = some (.string (T.kids i).name) ∧ w.cell? ⟨g, i * 4 + 3, none⟩ = some u ∧ Tr w (T.kids i) (s i) (e i) u) := by
  cases T with
  | nil => exact ⟨fun ⟨a, cap, h, hc⟩ => ⟨a, cap, h, hc, .inl rfl⟩, fun ⟨a, cap, h, hc, _⟩ => ⟨a, cap, h, hc⟩⟩
  | mk => exact Iff.rfl
theorem tr_row {w : World} : ∀ {T : Nd} {lo hi : Nat} {v : Value}, Tr w T lo hi v → Row lo hi w T v := by
  intro T
  induction T with
  | nil => exact fun h => h
  | mk k n s len kids ih =>
    rintro lo hi v ⟨a, cap, rfl, hcap, h⟩
    refine ⟨a, cap, rfl, hcap, ?_⟩
    rcases h with h | ⟨g, s, e, rfl, h1, h2, _, h4, _, h6⟩
    · exact .inl h
    · refine .inr ⟨g, 0, rfl, h1, h2, fun i hi => ?_⟩
      obtain ⟨u, e0, e1, e2, e3, hr⟩ := h6 i hi
      obtain ⟨s1, s2, s3, _⟩ := h4 i hi
      rw [Nat.zero_add]
      exact ⟨u, e0, e1, e2, e3, row_wide (ih i hr) s1 s3⟩
theorem tr_keep {w w' : World} : ∀ {T : Nd} {lo hi : Nat} {v : Value}, (∀ k, lo ≤ k → k < hi → w'.heap[k]? = w.heap[k]?) → Tr w T lo hi v → Tr w' T lo hi v := by
  intro T
  induction T with
  | nil => exact fun _ h => h
  | mk k n s len kids ih =>
    rintro lo hi v hc ⟨a, cap, rfl, hcap, h⟩
    refine ⟨a, cap, rfl, hcap, ?_⟩
    rcases h with h | ⟨g, s, e, rfl, h1, h2, h3, h4, h5, h6⟩
    · exact .inl h
    · have hg : ∀ o, w'.cell? ⟨g, o, none⟩ = w.cell? ⟨g, o, none⟩ := fun o => World.cell?_of_block (a := ⟨g, o, none⟩) (hc g h1 h2)
      have hf : ∀ o, w'.frozen? ⟨g, o, none⟩ = w.frozen? ⟨g, o, none⟩ := fun o => by unfold World.frozen?; rw [show w'.heap[g]? = w.heap[g]? from hc g h1 h2]
      refine .inr ⟨g, s, e, rfl, h1, h2, fun o => (hf o).trans (h3 o), h4, h5, fun i hi => ?_⟩
      obtain ⟨u, e0, e1, e2, e3, hr⟩ := h6 i hi
      obtain ⟨s1, s2, s3, _⟩ := h4 i hi
      exact ⟨u, (hg _).trans e0, (hg _).trans e1, (hg _).trans e2, (hg _).trans e3, ih i (fun k k1 k2 => hc k (by omega) (by omega)) hr⟩
theorem tr_below {w w' : World} {T : Nd} {lo hi B : Nat} {v : Value} (h : Tr w T lo hi v) (hb : Below B w w') (hB : hi ≤ B) : Tr w' T lo hi v := tr_keep (fun k _ h2 => hb.block k (by omega)) h
theorem tr_shape {w : World} {T : Nd} {lo hi : Nat} {v : Value} (h : Tr w T lo hi v) : ∃ a cap, v = .slice a T.len cap := by
  obtain ⟨a, cap, h, _⟩ := tr_eq.1 h; exact ⟨a, cap, h⟩
theorem tr_none (w : World) (lo hi : Nat) : Tr w .nil lo hi (.slice none 0 0) := ⟨none, 0, rfl, by omega, by omega⟩

def flatK (T : Nd) (us : Nat → Value) : Nat → List Value
  | 0 => []
  | j + 1 => flatK T us j ++ [.int .i64 (T.kids j).kind, .int .i64 (T.kids j).num, .string (T.kids j).name, us j]
theorem flatK_len (T : Nd) (us : Nat → Value) : ∀ j, (flatK T us j).length = j * 4
  | 0 => rfl
  | j + 1 => by simp only [flatK, List.length_append, flatK_len T us j, List.length_cons, List.length_nil]; omega
theorem flatK_at (T : Nd) (us : Nat → Value) : ∀ {n i : Nat}, i < n → (flatK T us n)[i * 4]? = some (.int .i64 (T.kids i).kind) ∧ (flatK T us n)[i * 4 + 1]? = some (.int .i64 (T.kids i).num) ∧ (flatK T us n)[i * 4 + 2]? = some (.string (T.kids i).name) ∧ (flatK T us n)[i * 4 + 3]? = some (us i)
  | n + 1, i, h => by
    have hl := flatK_len T us n
    simp only [flatK]
    by_cases e : i < n
    · obtain ⟨h0, h1, h2, h3⟩ := flatK_at T us e
      rw [List.getElem?_append_left (by omega), List.getElem?_append_left (by omega), List.getElem?_append_left (by omega), List.getElem?_append_left (by omega)]
      exact ⟨h0, h1, h2, h3⟩
    · obtain rfl : i = n := by omega
      rw [List.getElem?_append_right (by omega), List.getElem?_append_right (by omega), List.getElem?_append_right (by omega), List.getElem?_append_right (by omega), hl]
      refine ⟨?_, ?_, ?_, ?_⟩
      · rw [show i * 4 - i * 4 = 0 by omega]; rfl
      · rw [show i * 4 + 1 - i * 4 = 1 by omega]; rfl
      · rw [show i * 4 + 2 - i * 4 = 2 by omega]; rfl
      · rw [show i * 4 + 3 - i * 4 = 3 by omega]; rfl
theorem flatK_congr (T : Nd) {us vs : Nat → Value} : ∀ {j : Nat}, (∀ i, i < j → us i = vs i) → flatK T us j = flatK T vs j
  | 0, _ => rfl
  | j + 1, h => by simp only [flatK]; rw [flatK_congr T (fun i hi => h i (by omega)), h j (by omega)]

structure CpI (T : Nd) (w : World) (j : Nat) (v : Value) (us : Nat → Value) (s e : Nat → Nat) (wr : World) : Prop where
  own : wr.ownsRow w.heap.size 37 4 v j (flatK T us j)
  kid : ∀ i, i < j → Tr wr (T.kids i) (s i) (e i) (us i) ∧ w.heap.size ≤ s i ∧ s i ≤ e i ∧ e i ≤ wr.heap.size
  apart : ∀ i, i < j → ∀ g, v.ownBlock = some g → g < s i ∨ e i ≤ g
  ord : ∀ i k, i < k → k < j → e i ≤ s k
  below : Below w.heap.size w wr
theorem CpI.start (T : Nd) {w wr : World} {v : Value} (hv : wr.ownsRow w.heap.size 37 4 v 0 []) (hb : Below w.heap.size w wr) : CpI T w 0 v (fun _ => undef) (fun _ => 0) (fun _ => 0) wr :=
  ⟨hv, fun i hi => absurd hi (Nat.not_lt_zero _), fun i hi => absurd hi (Nat.not_lt_zero _), fun i k _ hk => absurd hk (Nat.not_lt_zero _), hb⟩
theorem CpI.later {T : Nd} {w : World} {j : Nat} {v : Value} {us : Nat → Value} {s e : Nat → Nat} {wr wr' : World} (h : CpI T w j v us s e wr) (hb : Below wr.heap.size wr wr') : CpI T w j v us s e wr' :=
  ⟨own_calm h.own fun k hk => hb.block k (h.own.lt k hk).2, fun i hi => ⟨tr_below (h.kid i hi).1 hb (h.kid i hi).2.2.2, (h.kid i hi).2.1, (h.kid i hi).2.2.1, Nat.le_trans (h.kid i hi).2.2.2 hb.size⟩, h.apart, h.ord, h.below.trans (hb.mono h.below.size)⟩
theorem CpI.step {T : Nd} {w : World} {j : Nat} {v v' : Value} {us : Nat → Value} {s e : Nat → Nat} {wr w1 w2 w3 : World} {u : Value} (h : CpI T w j v us s e wr) (hb1 : Below wr.heap.size wr w1) (ht : Tr w1 (T.kids j) wr.heap.size w1.heap.size u) (hb2 : Below w1.heap.size w1 w2)
    (hown : w3.ownsRow w.heap.size 37 4 v' (j + 1) (flatK T us j ++ [.int .i64 (T.kids j).kind, .int .i64 (T.kids j).num, .string (T.kids j).name, u])) (hgrow : w2.grownBy w3 v.ownBlock) (hloc : v'.ownBlock = v.ownBlock ∨ ∃ k, v'.ownBlock = some k ∧ w2.heap.size ≤ k) :
    CpI T w (j + 1) v' (fun i => if i = j then u else us i) (fun i => if i = j then wr.heap.size else s i) (fun i => if i = j then w1.heap.size else e i) w3 := by
  have z1 := hb1.size
  have z2 := hb2.size
  have z3 := hgrow.size
  have hz := h.below.size
  have hlt : ∀ g, v.ownBlock = some g → g < wr.heap.size := fun g hg => (h.own.lt g hg).2
  have hge : ∀ g, v.ownBlock = some g → w.heap.size ≤ g := fun g hg => (h.own.lt g hg).1
  refine ⟨?_, fun i hi => ?_, fun i hi g hg => ?_, fun i k hik hk => ?_, ?_⟩
  · have : flatK T (fun i => if i = j then u else us i) (j + 1) = flatK T us j ++ [.int .i64 (T.kids j).kind, .int .i64 (T.kids j).num, .string (T.kids j).name, u] := by
      simp only [flatK, if_true]
      rw [flatK_congr T (vs := us) fun i hi => if_neg (by omega)]
    rw [this]; exact hown
  · by_cases hij : i = j
    · subst hij
      simp only [if_true]
      refine ⟨tr_keep (fun k k1 k2 => ?_) (tr_below ht hb2 (Nat.le_refl _)), by omega, by omega, by omega⟩
      exact hgrow.block k (by omega) (fun e => by have := hlt k e.symm; omega)
    · simp only [if_neg hij]
      obtain ⟨t1, t2, t3, t4⟩ := h.kid i (by omega)
      refine ⟨tr_keep (fun k k1 k2 => ?_) (tr_below (tr_below t1 hb1 t4) hb2 (by omega)), t2, t3, by omega⟩
      exact hgrow.block k (by omega) (fun e => by have := h.apart i (by omega) k e.symm; omega)
  · by_cases hij : i = j
    · subst hij
      simp only [if_true]
      rcases hloc with hl | ⟨k, hk, hkz⟩
      · have := hlt g (hl ▸ hg); omega
      · rw [hk] at hg; obtain rfl := Option.some.inj hg; omega
    · simp only [if_neg hij]
      obtain ⟨t1, t2, t3, t4⟩ := h.kid i (by omega)
      rcases hloc with hl | ⟨k, hk, hkz⟩
      · exact h.apart i (by omega) g (hl ▸ hg)
      · rw [hk] at hg; obtain rfl := Option.some.inj hg; omega
  · by_cases hkj : k = j
    · subst hkj
      simp only [if_true, if_neg (show ¬ i = k by omega)]
      exact (h.kid i (by omega)).2.2.2
    · simp only [if_neg hkj, if_neg (show ¬ i = j by omega)]
      exact h.ord i k hik (by omega)
  · exact (h.below.trans ((hb1.mono hz).trans (hb2.mono (by omega)))).grown hgrow (by omega) (fun k hk => hge k hk)
theorem CpI.done {T : Nd} {w : World} {v : Value} {us : Nat → Value} {s e : Nat → Nat} {wr : World} (h : CpI T w T.len v us s e wr) : Tr wr T w.heap.size wr.heap.size v := by
  have hown := h.own
  rcases h.own.2 with ⟨rfl, e0⟩ | ⟨g, cap, cur, rfl, h2, h3, h4, h5, h6⟩
  · exact tr_eq.2 ⟨none, 0, by rw [e0], by omega, .inl e0⟩
  · unfold maxLen at h5
    refine tr_eq.2 ⟨_, cap, rfl, ⟨h4, by omega⟩, .inr ⟨g, s, e, rfl, h2, (Array.getElem?_eq_some_iff.1 h3).1, fun o => frozen_of_row _ _ _ _ _ h3, fun i hi => ?_, h.ord, fun i hi => ?_⟩⟩
    · obtain ⟨t1, t2, t3, t4⟩ := h.kid i hi
      exact ⟨t2, t3, t4, h.apart i hi g rfl⟩
    · obtain ⟨f0, f1, f2, f3⟩ := flatK_at T us hi
      have hc := hown.cells (g := g) rfl
      have c0 := hc _ _ f0
      have c1 := hc _ _ f1
      have c2 := hc _ _ f2
      have c3 := hc _ _ f3
      rw [add_at] at c0 c1 c2 c3
      exact ⟨us i, c0, c1, c2, c3, (h.kid i hi).1⟩
end Go.Proofs.YtjgbjahcnnjfpaaDoor
namespace Go.Proofs.YtjgbjahcnnjfpaaDoor
open Go.RowKit

theorem tr_wide {w : World} {T : Nd} {lo hi lo' hi' : Nat} {v : Value} (h : Tr w T lo hi v) (hlo : lo' ≤ lo) (hhi : hi ≤ hi') : Tr w T lo' hi' v := by
  obtain ⟨a, cap, rfl, hcap, h⟩ := tr_eq.1 h
  refine tr_eq.2 ⟨a, cap, rfl, hcap, ?_⟩
  rcases h with h | ⟨g, s, e, rfl, h1, h2, h3, h4, h5, h6⟩
  · exact .inl h
  · exact .inr ⟨g, s, e, rfl, by omega, by omega, h3, fun i hi => by have := h4 i hi; omega, h5, h6⟩
theorem clone_any (s : ByteArray) (w : World) (hs : s.size ≤ 1099511627776) :
    Calls Tryd.prog 49 #[.string s] w fun e w' => e = .returned (.string s) ∧ Below w.heap.size w w' := by
  go_enter Tryd.func49, Tryd.ntmps49
  go_wp2_with (go_at_call 62; refine (Tryd.stringslite_Clone _ _ (by omega)).mono ?_; rintro e w' ⟨rfl, hb⟩)
  go_ret
  exact ⟨rfl, hb⟩
theorem four_new (w : World) (a b c d : Value) (t : TypeId) : ∀ j u, [a, b, c, d][j]? = some u → (w.alloc (.cells #[a, b, c, d] t)).cell? ((⟨w.heap.size, 0, none⟩ : Addr).add j) = some u := by
  intro j u hj
  match j, hj with
  | 0, hj => simp at hj; subst hj; simp [Addr.add]
  | 1, hj => simp at hj; subst hj; simp [Addr.add]
  | 2, hj => simp at hj; subst hj; simp [Addr.add]
  | 3, hj => simp at hj; subst hj; simp [Addr.add]
  | j + 4, hj => simp at hj
theorem four_one (a : Option Addr) (l c : Nat) (x y : Int) (s : ByteArray) : ∀ u ∈ [Value.int .i64 x, .int .i64 y, .string s, .slice a l c], u.oneCell' = true := by
  intro u hu
  simp at hu
  rcases hu with rfl | rfl | rfl | rfl <;> rfl
theorem info_nodeC : (Tryd.prog.info? 37).map (fun i => (i.zero, i.size, i.bytes)) = some (some (.agg #[.int .i64 0, .int .i64 0, .string ⟨#[]⟩, .slice none 0 0]), 4, 56) := by kernel_rfl
theorem set_cellC (W : World) (g o o' : Nat) (x : Value) (hx : ∃ y, W.cell? ⟨g, o, none⟩ = some y) : (W.setCell ⟨g, o, none⟩ x).cell? ⟨g, o', none⟩ = if o' = o then some x else W.cell? ⟨g, o', none⟩ := by
  obtain ⟨y, hy⟩ := hx
  split
  · rename_i h; subst h; exact World.cell?_setCell_same _ _ _ hy
  · rename_i h; exact World.cell?_setCell_other _ _ _ _ (fun e => h (by cases e; rfl))
theorem store4C (W : World) (g : Nat) (a b c d : Value) (x0 : ∃ y, W.cell? ⟨g, 0, none⟩ = some y) (x1 : ∃ y, W.cell? ⟨g, 1, none⟩ = some y) (x2 : ∃ y, W.cell? ⟨g, 2, none⟩ = some y) (x3 : ∃ y, W.cell? ⟨g, 3, none⟩ = some y) :
    let V := (((W.setCell ⟨g, 0, none⟩ a).setCell ⟨g, 1, none⟩ b).setCell ⟨g, 2, none⟩ c).setCell ⟨g, 3, none⟩ d
    V.cell? ⟨g, 0, none⟩ = some a ∧ V.cell? ⟨g, 1, none⟩ = some b ∧ V.cell? ⟨g, 2, none⟩ = some c ∧ V.cell? ⟨g, 3, none⟩ = some d ∧ True ∧
      (∀ k, k ≠ g → V.heap[k]? = W.heap[k]?) ∧ V.heap.size = W.heap.size ∧ (∀ b o, V.frozen? ⟨b, o, none⟩ = W.frozen? ⟨b, o, none⟩) := by
  intro V
  have s1 : ∃ y, (W.setCell ⟨g, 0, none⟩ a).cell? ⟨g, 1, none⟩ = some y := by rw [set_cellC _ _ _ _ _ x0, if_neg (by omega)]; exact x1
  have s2 : ∃ y, ((W.setCell ⟨g, 0, none⟩ a).setCell ⟨g, 1, none⟩ b).cell? ⟨g, 2, none⟩ = some y := by rw [set_cellC _ _ _ _ _ s1, if_neg (by omega), set_cellC _ _ _ _ _ x0, if_neg (by omega)]; exact x2
  have s3 : ∃ y, (((W.setCell ⟨g, 0, none⟩ a).setCell ⟨g, 1, none⟩ b).setCell ⟨g, 2, none⟩ c).cell? ⟨g, 3, none⟩ = some y := by rw [set_cellC _ _ _ _ _ s2, if_neg (by omega), set_cellC _ _ _ _ _ s1, if_neg (by omega), set_cellC _ _ _ _ _ x0, if_neg (by omega)]; exact x3
  have hV : ∀ k, V.cell? ⟨g, k, none⟩ = if k = 3 then some d else if k = 2 then some c else if k = 1 then some b else if k = 0 then some a else W.cell? ⟨g, k, none⟩ := fun k => by
    show ((((W.setCell ⟨g, 0, none⟩ a).setCell ⟨g, 1, none⟩ b).setCell ⟨g, 2, none⟩ c).setCell ⟨g, 3, none⟩ d).cell? ⟨g, k, none⟩ = _
    rw [set_cellC _ _ _ _ _ s3, set_cellC _ _ _ _ _ s2, set_cellC _ _ _ _ _ s1, set_cellC _ _ _ _ _ x0]
  refine ⟨hV 0, hV 1, hV 2, hV 3, trivial, fun k hk => ?_, by simp [V, World.setCell], fun b o => by simp [V, go_sem]⟩
  show ((((W.setCell ⟨g, 0, none⟩ a).setCell ⟨g, 1, none⟩ b).setCell ⟨g, 2, none⟩ c).setCell ⟨g, 3, none⟩ d).heap[k]? = _
  rw [Below.heap_setCell _ _ _ _ hk, Below.heap_setCell _ _ _ _ hk, Below.heap_setCell _ _ _ _ hk, Below.heap_setCell _ _ _ _ hk]

end Go.Proofs.YtjgbjahcnnjfpaaDoor
namespace Go.Proofs.YtjgbjahcnnjfpaaDoor
open Go.RowKit

def mapN (T : Nd) (f : Nat → Nd) : Nd := .mk T.kind T.num T.name T.len f

set_option maxHeartbeats 4000000 in
theorem remade_cp (T : Nd) (f : Nat → Nd) (w : World) (v : Value) (hi : Nat) (hf : T.Fine) (hhi : hi ≤ w.heap.size) (hr : Row 0 hi w T v) (hcost : T.cost ≤ 1048576)
    (hcall : ∀ i, i < T.len → ∀ (W : World) (x : Value), Below w.heap.size w W → Row 0 hi W (T.kids i) x → Calls Tryd.prog 37 #[(T.kids i).val x] W fun e w' => ∃ u, e = .returned ((f i).val u) ∧ Tr w' (f i) W.heap.size w'.heap.size u ∧ Below W.heap.size W w') :
    Calls Tryd.prog 50 #[T.val v, .func (.func 37) #[] #[]] w fun e w' => ∃ u, e = .returned ((mapN T f).val u) ∧ Tr w' (mapN T f) w.heap.size w'.heap.size u ∧ Below w.heap.size w w' := by
  have hn := T.fine_len hf
  have hce := T.cost_eq
  have hl20 : T.len ≤ 1048576 := by omega
  obtain ⟨a, cap, rfl, hcap, hq⟩ := row_eq.1 hr
  obtain ⟨i0, hi0, hz0, hz1, hz2⟩ := info_parts info_nodeC
  have HI := hid_mk hcall
  have HR := hid_mk hq
  clear hr hf hcall hq hce hcap
  unfold Nd.val
  generalize hW0 : (w.alloc (.cells #[.int .i64 T.kind, .int .i64 T.num, .string T.name, .slice a T.len cap] 37)).alloc (.cells #[.int .i64 0, .int .i64 0, .string ⟨#[]⟩, .slice none 0 0] 37) = W0
  have hb0 : Hid (Below w.heap.size w W0) := by rw [← hW0]; exact ((Below.refl _ _).alloc (Nat.le_refl _) _).alloc (by simp) _
  have hz0' : W0.heap.size = w.heap.size + 1 + 1 := by rw [← hW0]; simp
  have HC0 : Hid ((W0.cell? ⟨w.heap.size, 0, none⟩ = some (.int .i64 T.kind) ∧ W0.cell? ⟨w.heap.size, 1, none⟩ = some (.int .i64 T.num) ∧ W0.cell? ⟨w.heap.size, 2, none⟩ = some (.string T.name) ∧ W0.cell? ⟨w.heap.size, 3, none⟩ = some (.slice a T.len cap)) ∧
      (W0.cell? ⟨w.heap.size + 1, 0, none⟩ = some (.int .i64 0) ∧ W0.cell? ⟨w.heap.size + 1, 1, none⟩ = some (.int .i64 0) ∧ W0.cell? ⟨w.heap.size + 1, 2, none⟩ = some (.string ⟨#[]⟩) ∧ W0.cell? ⟨w.heap.size + 1, 3, none⟩ = some (.slice none 0 0)) ∧ (∀ o, W0.frozen? ⟨w.heap.size, o, none⟩ = false) ∧ ∀ o, W0.frozen? ⟨w.heap.size + 1, o, none⟩ = false) := by
    rw [← hW0]; unfold Hid; simp [go_sem]
  have HW0 := hid_mk hW0
  have HZ0 := hid_mk hz0'
  clear hW0 hz0'
  go_enter Tryd.func50, Tryd.ntmps50
  go_wp2
  rw [HW0.out]
  go_loopw [5, 11] (fun kv i wr => ∃ (j : Nat) (sa : Option Addr) (sc : Nat) (us : Nat → Value) (s e : Nat → Nat), j ≤ T.len ∧ i = .int .i64 j ∧ kv = .slice sa j sc ∧ CpI (mapN T f) W0 j (.slice sa j sc) us s e wr) (fun _ i _ => T.len - (intOf i).toNat)
  case atStart =>
    refine ⟨0, none, 0, _, _, _, Nat.zero_le _, rfl, rfl, CpI.start (mapN T f) ⟨rfl, .inl ⟨rfl, rfl⟩⟩ (Below.refl _ _)⟩
  case round =>
    obtain ⟨j, sa, sc, us, s, e, hj, rfl, rfl, hcp⟩ := hrel
    have HCP := hid_mk hcp
    have hz := hcp.below.size
    have HZ := hid_mk (show w.heap.size + 1 + 1 ≤ wr.heap.size by have := HZ0.out; omega)
    have hbw := hb0.out.trans (hcp.below.mono (by have := HZ0.out; omega))
    by_cases hlt : j < T.len
    · rcases HR.out with h0 | ⟨g, off, rfl, h1, h2, h3⟩
      · omega
      obtain ⟨x, e0, e1, e2, e3, hx⟩ := h3 j hlt
      have hgl : g < w.heap.size := by omega
      rw [← hbw.cell (p := ⟨g, _, none⟩) hgl] at e0 e1 e2 e3
      obtain ⟨xa, xc, rfl⟩ : ∃ xa xc, x = .slice xa (T.kids j).len xc := by obtain ⟨a', c', h, _⟩ := row_eq.1 hx; exact ⟨a', c', h⟩
      have HBA : ∀ x : Obj, Hid (Below wr.heap.size wr (wr.alloc x)) := fun x => (Below.refl _ _).alloc (Nat.le_refl _) _
      have HCC := hid_mk (fun (o : Obj) => HI.out j hlt (wr.alloc o) (.slice xa (T.kids j).len xc) (hbw.trans ((HBA o).out.mono (by have := HZ.out; omega))) (row_below (hbw.trans ((HBA o).out.mono (by have := HZ.out; omega))) hhi hx))
      have hjl : (j : Int) < (T.len : Int) := by omega
      unfold Nd.val at HCC
      clear h3 hx hcp hbw
      go_wp2_with (first
        | (go_at_call 37; refine (HCC.out _).mono ?_; rintro e w1 ⟨u1, rfl, ht1, hb1⟩; obtain ⟨a1, p1, rfl⟩ := tr_shape ht1; have HT1 := hid_mk ht1; have HB1 := hid_mk hb1; clear ht1 hb1)
        | (at_builtin; refine wpList_append_freshG _ rfl _ _ 35 rfl W0.heap.size 37 i0 (.agg #[.int .i64 0, .int .i64 0, .string ⟨#[]⟩, .slice none 0 0]) 4 56 Tryd.underlying35 hi0 hz0 hz1 hz2 rfl (by decide) _ j _ rfl (((HCP.out.later (HBA _).out).later HB1.out).own.alloc _) ⟨w1.heap.size, 0, none⟩ 1 1 [.int .i64 (f j).kind, .int .i64 (f j).num, .string (f j).name, .slice a1 (f j).len p1] rfl rfl (four_new _ _ _ _ _ _) (four_one _ _ _ _ _ _) (by unfold maxLen; omega) (by omega) (by have := ((HCP.out.later (HBA _).out).later HB1.out).below.size; simp; omega) ?_; intro v' w3 hown hgrow hloc hsh))
      obtain ⟨sa', sc', rfl⟩ := hsh.out
      have hst := (HCP.out.later (HBA _).out).step HB1.out HT1.out ((Below.refl _ _).alloc (Nat.le_refl _) _) hown.out hgrow.out hloc.out
      exact ⟨⟨j + 1, sa', sc', _, _, _, by omega, by go_num, rfl, hst⟩, by simp [intOf]; omega⟩
    · obtain rfl : j = T.len := by omega
      obtain ⟨⟨c0, c1, c2, c3⟩, ⟨d0, d1, d2, d3⟩, hfc, hfd⟩ := HC0.out
      have hc : ∀ b o, b < w.heap.size + 1 + 1 → wr.cell? ⟨b, o, none⟩ = W0.cell? ⟨b, o, none⟩ := fun b o h => hcp.below.cell (p := ⟨b, o, none⟩) (show b < W0.heap.size by have := HZ0.out; omega)
      rw [← hc _ _ (by omega)] at c0 c1 c2 c3
      rw [← hc _ _ (by omega)] at d0 d1 d2 d3
      have hfc' : ∀ o, wr.frozen? ⟨w.heap.size, o, none⟩ = false := fun o => (hcp.below.frozen (p := ⟨w.heap.size, o, none⟩) (show w.heap.size < W0.heap.size by have := HZ0.out; omega)).trans (hfc o)
      have hfd' : ∀ o, wr.frozen? ⟨w.heap.size + 1, o, none⟩ = false := fun o => (hcp.below.frozen (p := ⟨w.heap.size + 1, o, none⟩) (show w.heap.size + 1 < W0.heap.size by have := HZ0.out; omega)).trans (hfd o)
      have HTR := hid_mk (tr_wide (hi' := wr.heap.size) (CpI.done (T := mapN T f) hcp) (show w.heap.size + 2 ≤ W0.heap.size by have := HZ0.out; omega) (Nat.le_refl _))
      have HBW := hid_mk hbw
      clear hc hfc hfd hcp hbw
      go_wp2
      have hzw := HZ.out
      have ho : ∀ o, (wr.setCell ⟨w.heap.size, 3, none⟩ (.slice sa T.len sc)).cell? ⟨w.heap.size + 1, o, none⟩ = wr.cell? ⟨w.heap.size + 1, o, none⟩ := fun o => World.cell?_of_block (a := ⟨w.heap.size + 1, o, none⟩) (Below.heap_setCell _ _ _ _ (by show w.heap.size + 1 ≠ w.heap.size; omega))
      obtain ⟨p0, p1, p2, p3, _, po, ps, pf⟩ := store4C (wr.setCell ⟨w.heap.size, 3, none⟩ (.slice sa T.len sc)) (w.heap.size + 1) (.int .i64 T.kind) (.int .i64 T.num) (.string T.name) (.slice sa T.len sc) ⟨_, (ho 0).trans d0⟩ ⟨_, (ho 1).trans d1⟩ ⟨_, (ho 2).trans d2⟩ ⟨_, (ho 3).trans d3⟩
      have hbV : Below w.heap.size w (((((wr.setCell ⟨w.heap.size, 3, none⟩ (.slice sa T.len sc)).setCell ⟨w.heap.size + 1, 0, none⟩ (.int .i64 T.kind)).setCell ⟨w.heap.size + 1, 1, none⟩ (.int .i64 T.num)).setCell ⟨w.heap.size + 1, 2, none⟩ (.string T.name)).setCell ⟨w.heap.size + 1, 3, none⟩ (.slice sa T.len sc)) :=
        ((((HBW.out.setCell (p := ⟨w.heap.size, 3, none⟩) (Nat.le_refl _) _).setCell (p := ⟨w.heap.size + 1, 0, none⟩) (Nat.le_succ _) _).setCell (p := ⟨w.heap.size + 1, 1, none⟩) (Nat.le_succ _) _).setCell (p := ⟨w.heap.size + 1, 2, none⟩) (Nat.le_succ _) _).setCell (p := ⟨w.heap.size + 1, 3, none⟩) (Nat.le_succ _) _
      have hz1 : (wr.setCell ⟨w.heap.size, 3, none⟩ (.slice sa T.len sc)).heap.size = wr.heap.size := by simp only [World.setCell, Array.size_modify]
      have htr : Tr (((((wr.setCell ⟨w.heap.size, 3, none⟩ (.slice sa T.len sc)).setCell ⟨w.heap.size + 1, 0, none⟩ (.int .i64 T.kind)).setCell ⟨w.heap.size + 1, 1, none⟩ (.int .i64 T.num)).setCell ⟨w.heap.size + 1, 2, none⟩ (.string T.name)).setCell ⟨w.heap.size + 1, 3, none⟩ (.slice sa T.len sc)) (mapN T f) w.heap.size wr.heap.size (.slice sa T.len sc) :=
        tr_wide (tr_keep (fun k k1 k2 => (po k (by omega)).trans (Below.heap_setCell _ _ _ _ (by show k ≠ w.heap.size; omega))) HTR.out) (by omega) (Nat.le_refl _)
      rw [hz1] at ps
      revert p0 p1 p2 p3 po ps pf hbV htr
      generalize ((((wr.setCell ⟨w.heap.size, 3, none⟩ (.slice sa T.len sc)).setCell ⟨w.heap.size + 1, 0, none⟩ (.int .i64 T.kind)).setCell ⟨w.heap.size + 1, 1, none⟩ (.int .i64 T.num)).setCell ⟨w.heap.size + 1, 2, none⟩ (.string T.name)).setCell ⟨w.heap.size + 1, 3, none⟩ (.slice sa T.len sc) = X
      intro p0 p1 p2 p3 po ps pf hbV htr
      exact bodyPost_ret (v := .agg #[.int .i64 T.kind, .int .i64 T.num, .string T.name, .slice sa T.len sc]) (by simp [results, Tryd.results50, go_sem, p0, p1, p2, p3]) rfl ⟨.slice sa T.len sc, rfl, by rw [ps]; exact htr, hbV⟩
end Go.Proofs.YtjgbjahcnnjfpaaDoor
namespace Go.Proofs.YtjgbjahcnnjfpaaDoor
open Go.RowKit

theorem node_of (k n : Int) (s : ByteArray) (a : Option Addr) (l c : Nat) (w : World) :
    Calls Tryd.prog 43 #[.int .i64 k, .int .i64 n, .string s, .slice a l c] w fun e w' => e = .returned (.agg #[.int .i64 k, .int .i64 n, .string s, .slice a l c]) ∧ Below w.heap.size w w' := by
  go_enter Tryd.func43, Tryd.ntmps43
  go_wp2
  exact bodyPost_ret (v := .agg #[.int .i64 k, .int .i64 n, .string s, .slice a l c]) (by simp [results, Tryd.results43, go_sem]) rfl ⟨rfl, (Below.refl _ _).alloc (Nat.le_refl _) _⟩

end Go.Proofs.YtjgbjahcnnjfpaaDoor
