/- Woven trees, as functions: chosen, counted, right. -/
import Derived.Test.YtjgbjahcnnjfpaaDoorMaA
import Derived.Test.YtjgbjahcnnjfpaaDoorMcD
import Derived.Deep.QuietTactic
import Derived.RegionTactic
import Derived.Deep.RegionWith
set_option linter.unusedVariables false
namespace Go.Proofs.YtjgbjahcnnjfpaaDoor
open Go.RowKit

def pickK (num sel : Int) (len : Nat) : Nat := if num ≤ sel ∧ sel - num < (len : Int) - 1 then (sel - num + 1).toNat else 0
theorem pickK_lt {num sel : Int} {len : Nat} (h : 0 < len) : pickK num sel len < len := by unfold pickK; split <;> omega
def chooseT (sel : Int) : Nd → Nd
  | .nil => .nil
  | .mk k n s len kids => if k = 30 ∧ 0 < len then chooseT sel (kids (pickK n sel len)) else .mk k n s len (fun i => chooseT sel (kids i))
theorem choose_pick (sel : Int) (T : Nd) (hk : T.kind = 30) (hl : 0 < T.len) : chooseT sel T = chooseT sel (T.kids (pickK T.num sel T.len)) := by
  cases T with
  | nil => exact absurd hl (Nat.lt_irrefl _)
  | mk k n s len kids => show (if k = 30 ∧ 0 < len then _ else _) = _; rw [if_pos ⟨hk, hl⟩]; rfl
def overT (sel : Int) (T : Nd) : Nd := match T with
  | .nil => .nil
  | .mk k n s len kids => .mk k n s len (fun i => chooseT sel (kids i))
theorem choose_over (sel : Int) (T : Nd) (h : ¬ (T.kind = 30 ∧ 0 < T.len)) : chooseT sel T = overT sel T := by
  cases T with
  | nil => rfl
  | mk k n s len kids => show (if k = 30 ∧ 0 < len then _ else _) = _; rw [if_neg (show ¬ (k = 30 ∧ 0 < len) from h)]; rfl
theorem over_parts (sel : Int) (T : Nd) : (overT sel T).kind = T.kind ∧ (overT sel T).num = T.num ∧ (overT sel T).name = T.name ∧ (overT sel T).len = T.len ∧ ∀ i, i < T.len → (overT sel T).kids i = chooseT sel (T.kids i) := by
  cases T with
  | nil => exact ⟨rfl, rfl, rfl, rfl, fun i hi => absurd hi (Nat.not_lt_zero _)⟩
  | mk => exact ⟨rfl, rfl, rfl, rfl, fun _ _ => rfl⟩
theorem choose_sub (sel : Int) (T : Nd) : (chooseT sel T).cost ≤ T.cost ∧ (chooseT sel T).size ≤ T.size ∧ (T.Fine → (chooseT sel T).Fine) := by
  induction T with
  | nil => exact ⟨Nat.le_refl _, Nat.le_refl _, id⟩
  | mk k n s len kids ih =>
    by_cases h : k = 30 ∧ 0 < len
    · have hk := pickK_lt (num := n) (sel := sel) h.2
      obtain ⟨h1, h2, h3⟩ := ih (pickK n sel len)
      rw [choose_pick sel (.mk k n s len kids) h.1 h.2]
      have c1 := Nd.cost_kid (.mk k n s len kids) (i := pickK n sel len) hk
      have c2 := size_kid (.mk k n s len kids) (i := pickK n sel len) hk
      exact ⟨Nat.le_trans h1 c1, Nat.le_trans h2 (Nat.le_of_lt c2), fun hf => h3 (Nd.fine_kid (T := .mk k n s len kids) hf hk)⟩
    · rw [choose_over sel (.mk k n s len kids) h]
      refine ⟨?_, ?_, fun hf => ?_⟩
      · show s.size + (len + sumTo (fun i => (chooseT sel (kids i)).cost) len) ≤ s.size + (len + sumTo (fun i => (kids i).cost) len)
        have : ∀ m, sumTo (fun i => (chooseT sel (kids i)).cost) m ≤ sumTo (fun i => (kids i).cost) m := fun m => by
          induction m with
          | zero => exact Nat.le_refl _
          | succ m ihm => simp only [sumTo]; have := (ih m).1; omega
        have := this len; omega
      · show 1 + sumTo (fun i => (chooseT sel (kids i)).size) len ≤ 1 + sumTo (fun i => (kids i).size) len
        have : ∀ m, sumTo (fun i => (chooseT sel (kids i)).size) m ≤ sumTo (fun i => (kids i).size) m := fun m => by
          induction m with
          | zero => exact Nat.le_refl _
          | succ m ihm => simp only [sumTo]; have := (ih m).2.1; omega
        have := this len; omega
      · exact ⟨hf.1, hf.2.1, hf.2.2.1, hf.2.2.2.1, fun i hi => (ih i).2.2 (hf.2.2.2.2 i hi)⟩

def isum (f : Nat → Int) : Nat → Int
  | 0 => 0
  | n + 1 => isum f n + f n
def picksT : Nd → Nat
  | .nil => 0
  | .mk k n s len kids => (if k = 30 then 1 else 0) + sumTo (fun i => picksT (kids i)) len
theorem picks_eq (T : Nd) : picksT T = (if T.kind = 30 then 1 else 0) + sumTo (fun i => picksT (T.kids i)) T.len := by cases T <;> rfl
def waysT : Nd → Int
  | .nil => 0
  | .mk k n s len kids => (if k = 30 then (len : Int) - 1 else 0) + isum (fun i => waysT (kids i)) len
theorem ways_eq (T : Nd) : waysT T = (if T.kind = 30 then (T.len : Int) - 1 else 0) + isum (fun i => waysT (T.kids i)) T.len := by cases T <;> rfl
theorem picks_le (T : Nd) : picksT T ≤ T.size := by
  induction T with
  | nil => exact Nat.zero_le _
  | mk k n s len kids ih =>
    show (if k = 30 then 1 else 0) + sumTo (fun i => picksT (kids i)) len ≤ 1 + sumTo (fun i => (kids i).size) len
    have : ∀ m, sumTo (fun i => picksT (kids i)) m ≤ sumTo (fun i => (kids i).size) m := fun m => by
      induction m with
      | zero => exact Nat.le_refl _
      | succ m ihm => simp only [sumTo]; have := ih m; omega
    have := this len
    split <;> omega
theorem ways_le (T : Nd) : -(T.size : Int) ≤ waysT T ∧ waysT T ≤ (T.size : Int) - 1 := by
  induction T with
  | nil => exact ⟨by decide, by decide⟩
  | mk k n s len kids ih =>
    rw [ways_eq, Nd.size_eq]
    show -((1 + sumTo (fun i => (kids i).size) len : Nat) : Int) ≤ (if k = 30 then (len : Int) - 1 else 0) + isum (fun i => waysT (kids i)) len ∧ (if k = 30 then (len : Int) - 1 else 0) + isum (fun i => waysT (kids i)) len ≤ ((1 + sumTo (fun i => (kids i).size) len : Nat) : Int) - 1
    have : ∀ m, -(sumTo (fun i => (kids i).size) m : Int) ≤ isum (fun i => waysT (kids i)) m ∧ isum (fun i => waysT (kids i)) m + (m : Int) ≤ (sumTo (fun i => (kids i).size) m : Int) := fun m => by
      induction m with
      | zero => simp [isum, sumTo]
      | succ m ihm => simp only [isum, sumTo]; have := ih m; omega
    have := this len
    split <;> omega
def runR (f : Nat → Int → Int) : Nat → Int → Int
  | 0, x => x
  | n + 1, x => if 0 < runR f n x then f n (runR f n x) else runR f n x
def rightT : Nd → Int → Int
  | .nil, x => x
  | .mk k n s len kids, x =>
    if k = 30 then
      (if n = x ∧ s = ⟨#[]⟩ ∧ 2 ≤ len ∧ (kids 0).kind ≠ 30 ∧ sumTo (fun i => if i = 0 then 0 else picksT (kids i)) len = 0 then rightT (kids 0) (x + ((len : Int) - 1)) else -1)
    else runR (fun i y => rightT (kids i) y) len x
theorem right_eq (T : Nd) (x : Int) : rightT T x = if T.kind = 30 then
      (if T.num = x ∧ T.name = ⟨#[]⟩ ∧ 2 ≤ T.len ∧ (T.kids 0).kind ≠ 30 ∧ sumTo (fun i => if i = 0 then 0 else picksT (T.kids i)) T.len = 0 then rightT (T.kids 0) (x + ((T.len : Int) - 1)) else -1)
    else runR (fun i y => rightT (T.kids i) y) T.len x := by
  cases T with
  | nil => rfl
  | mk => rfl
end Go.Proofs.YtjgbjahcnnjfpaaDoor
namespace Go.Proofs.YtjgbjahcnnjfpaaDoor
open Go.RowKit

def PkOK (B : Int) : Nd → Prop
  | .nil => True
  | .mk k n s len kids => (k = 30 → 1 ≤ n ∧ n ≤ B) ∧ ∀ i, i < len → PkOK B (kids i)
theorem pk_eq (B : Int) (T : Nd) : PkOK B T ↔ (T.kind = 30 → 1 ≤ T.num ∧ T.num ≤ B) ∧ ∀ i, i < T.len → PkOK B (T.kids i) := by
  cases T with
  | nil => exact ⟨fun _ => ⟨(fun h => by cases h), fun i hi => absurd hi (Nat.not_lt_zero _)⟩, fun _ => trivial⟩
  | mk => exact Iff.rfl
theorem pk_up {B C : Int} (h : B ≤ C) : ∀ {T : Nd}, PkOK B T → PkOK C T := by
  intro T
  induction T with
  | nil => exact fun _ => trivial
  | mk k n s len kids ih => exact fun ⟨h1, h2⟩ => ⟨fun e => by have := h1 e; omega, fun i hi => ih i (h2 i hi)⟩
theorem sum_zero {f : Nat → Nat} : ∀ {n : Nat}, sumTo f n = 0 → ∀ i, i < n → f i = 0
  | n + 1, h, i, hi => by
    simp only [sumTo] at h
    by_cases e : i = n
    · subst e; omega
    · exact sum_zero (n := n) (by omega) i (by omega)
theorem pk_none (B : Int) : ∀ {T : Nd}, picksT T = 0 → PkOK B T := by
  intro T
  induction T with
  | nil => exact fun _ => trivial
  | mk k n s len kids ih =>
    intro h
    rw [picks_eq] at h
    have h0 : (if k = 30 then 1 else 0) + sumTo (fun i => picksT (kids i)) len = 0 := h
    have hk : ¬ k = 30 := fun e => by rw [if_pos e] at h0; omega
    exact ⟨fun e => absurd e hk, fun i hi => ih i (sum_zero (f := fun i => picksT (kids i)) (n := len) (by omega) i hi)⟩
theorem right_ok (T : Nd) : ∀ x : Int, 1 ≤ x → rightT T x = -1 ∨ (x ≤ rightT T x ∧ rightT T x ≤ x + (T.size : Int) - 1 ∧ PkOK (rightT T x) T) := by
  induction T with
  | nil => intro x hx; exact .inr ⟨Int.le_refl _, by show x ≤ x + (1 : Int) - 1; omega, trivial⟩
  | mk k n s len kids ih =>
    intro x hx
    rw [right_eq]
    show (if k = 30 then _ else _) = -1 ∨ _
    by_cases hk : k = 30
    · simp only [hk, if_true]
      by_cases hc : n = x ∧ s = ⟨#[]⟩ ∧ 2 ≤ len ∧ (kids 0).kind ≠ 30 ∧ sumTo (fun i => if i = 0 then 0 else picksT (kids i)) len = 0
      · rw [if_pos (show (Nd.mk 30 n s len kids).num = x ∧ (Nd.mk 30 n s len kids).name = ⟨#[]⟩ ∧ 2 ≤ (Nd.mk 30 n s len kids).len ∧ ((Nd.mk 30 n s len kids).kids 0).kind ≠ 30 ∧ sumTo (fun i => if i = 0 then 0 else picksT ((Nd.mk 30 n s len kids).kids i)) (Nd.mk 30 n s len kids).len = 0 from hc)]
        obtain ⟨h1, h2, h3, h4, h5⟩ := hc
        show rightT (kids 0) (x + ((len : Int) - 1)) = -1 ∨ (x ≤ rightT (kids 0) (x + ((len : Int) - 1)) ∧ rightT (kids 0) (x + ((len : Int) - 1)) ≤ x + ((1 + sumTo (fun i => (kids i).size) len : Nat) : Int) - 1 ∧ PkOK (rightT (kids 0) (x + ((len : Int) - 1))) (.mk 30 n s len kids))
        have hs : ∀ m, 1 ≤ m → (kids 0).size + (m - 1) ≤ sumTo (fun i => (kids i).size) m := by
          intro m
          induction m with
          | zero => intro h; omega
          | succ m ihm =>
            intro _
            simp only [sumTo]
            by_cases e : m = 0
            · subst e; simp [sumTo]
            · have := ihm (by omega); have := size_pos (kids m); omega
        have := hs len (by omega)
        rcases ih 0 (x + ((len : Int) - 1)) (by omega) with h | ⟨ha, hb, hc⟩
        · exact .inl h
        · refine .inr ⟨by omega, by omega, fun _ => by omega, fun i hi => ?_⟩
          by_cases e : i = 0
          · subst e; exact hc
          · refine pk_none _ ?_
            have := sum_zero h5 i hi
            simpa [e] using this
      · rw [if_neg (show ¬ ((Nd.mk 30 n s len kids).num = x ∧ (Nd.mk 30 n s len kids).name = ⟨#[]⟩ ∧ 2 ≤ (Nd.mk 30 n s len kids).len ∧ ((Nd.mk 30 n s len kids).kids 0).kind ≠ 30 ∧ sumTo (fun i => if i = 0 then 0 else picksT ((Nd.mk 30 n s len kids).kids i)) (Nd.mk 30 n s len kids).len = 0) from hc)]
        exact .inl rfl
    · simp only [show (Nd.mk k n s len kids).kind = k from rfl, hk, if_false]
      have hm : ∀ m, m ≤ len → runR (fun i y => rightT (kids i) y) m x = -1 ∨ (x ≤ runR (fun i y => rightT (kids i) y) m x ∧ runR (fun i y => rightT (kids i) y) m x ≤ x + (sumTo (fun i => (kids i).size) m : Int) ∧ ∀ i, i < m → PkOK (runR (fun i y => rightT (kids i) y) m x) (kids i)) := by
        intro m
        induction m with
        | zero => intro _; exact .inr ⟨Int.le_refl _, by simp [runR, sumTo], fun i hi => absurd hi (Nat.not_lt_zero _)⟩
        | succ m ihm =>
          intro hml
          rcases ihm (by omega) with h | ⟨h1, h2, h3⟩
          · left; simp [runR, h]
          · simp only [runR]
            rw [if_pos (by omega)]
            rcases ih m _ (show 1 ≤ runR (fun i y => rightT (kids i) y) m x by omega) with h | ⟨ha, hb, hc⟩
            · exact .inl h
            · refine .inr ⟨by omega, by simp only [sumTo]; omega, fun i hi => ?_⟩
              by_cases e : i = m
              · subst e; exact hc
              · exact pk_up ha (h3 i (by omega))
      rcases hm len (Nat.le_refl _) with h | ⟨h1, h2, h3⟩
      · exact .inl h
      · exact .inr ⟨h1, by show runR (fun i y => rightT (kids i) y) len x ≤ x + ((1 + sumTo (fun i => (kids i).size) len : Nat) : Int) - 1; omega, fun e => absurd e hk, h3⟩
end Go.Proofs.YtjgbjahcnnjfpaaDoor
namespace Go.Proofs.YtjgbjahcnnjfpaaDoor
open Go.RowKit Go.Shelf
attribute [local go_sem] Oper.semAt_some

theorem sum_all {f : Nat → Nat} : ∀ {n : Nat}, (∀ i, i < n → f i = 0) → sumTo f n = 0
  | 0, _ => rfl
  | n + 1, h => by simp only [sumTo]; rw [sum_all fun i hi => h i (by omega), h n (by omega)]
theorem picks_pre (T : Nd) : ∀ d, picksT T = 0 ↔ ∀ p, p ∈ T.pre d → ¬ p.1.kind = 30 := by
  induction T with
  | nil => intro d; refine ⟨fun _ p hp => ?_, fun _ => rfl⟩; simp [Nd.pre] at hp; subst hp; show ¬ (0 : Int) = 30; omega
  | mk k n s len kids ih =>
    intro d
    rw [picks_eq, pre_eq]
    show (if k = 30 then 1 else 0) + sumTo (fun i => picksT (kids i)) len = 0 ↔ _
    constructor
    · intro h p hp
      have hk : ¬ k = 30 := fun e => by rw [if_pos e] at h; omega
      rcases List.mem_cons.1 hp with rfl | hp
      · exact hk
      · obtain ⟨i, hi, hp⟩ := List.mem_flatMap.1 hp
        have hi : i < len := List.mem_range.1 hi
        exact (ih i (d + 1)).1 (sum_zero (f := fun i => picksT (kids i)) (n := len) (by omega) i hi) p hp
    · intro h
      have hk : ¬ k = 30 := h _ (List.mem_cons_self ..)
      rw [if_neg hk, sum_all (f := fun i => picksT (kids i)) (n := len) fun i hi => (ih i (d + 1)).2 fun p hp => h p (List.mem_cons_of_mem _ (List.mem_flatMap.2 ⟨i, List.mem_range.2 hi, hp⟩))]
def hasPk (T : Nd) : Bool := decide (0 < picksT T)
theorem hasPk_no {T : Nd} (h : ∀ p, p ∈ T.pre 0 → ¬ p.1.kind = 30) : hasPk T = false := by
  have := (picks_pre T 0).2 h
  unfold hasPk; rw [decide_eq_false_iff_not]; omega
theorem hasPk_yes {T : Nd} {p : Nd × Nat} (h : p ∈ T.pre 0) (hp : p.1.kind = 30) : hasPk T = true := by
  unfold hasPk; rw [decide_eq_true_eq]
  by_cases e : picksT T = 0
  · exact absurd hp ((picks_pre T 0).1 e p h)
  · omega

structure HpI (w : World) (pre : List Ent) (W : World) : Prop where
  below : Below w.heap.size w W
  res : Boxed W (w.heap.size + 1) 4 (.bool false)
  ok : ∀ x ∈ pre, ¬ x.D.kind = 30
  size : w.heap.size + 5 ≤ W.heap.size
structure HpX (w : World) (T : Nd) (c : Code) (W : World) : Prop where
  ret : c = .ret
  below : Below w.heap.size w W
  res : Boxed W (w.heap.size + 1) 4 (.bool true)
  bad : hasPk T = true
  size : w.heap.size + 5 ≤ W.heap.size

set_option maxHeartbeats 4000000 in
set_option maxRecDepth 100000 in
theorem has_pick (T : Nd) (w : World) (u : Value) (hi : Nat) (hf : T.Fine) (hhi : hi ≤ w.heap.size) (hr : Row 0 hi w T u) (hc : T.cost ≤ 1048576) :
    Calls Tryd.prog 60 #[T.val u] w fun e w' => e = .returned (.bool (hasPk T)) ∧ Below w.heap.size w w' := by
  obtain ⟨au, cu, hu, _⟩ := row_eq.1 hr
  subst hu
  refine (callsIn_wide (n := 3)).1 ?_
  refine callsIn_of_wp_marks Tryd.func60 rfl trivial ?_ rfl
  unfold Nd.val
  simp only [Tryd.ntmps60, List.size_toArray, List.length_cons, List.length_nil, Nat.reduceAdd, Nat.reduceSub, Array.replicate_succ, Array.replicate_zero, List.push_toArray, List.append_toArray, List.nil_append, List.cons_append]
  gi_wp2_with ((refine ⟨trivial, ?_⟩; gi_at_call 46; refine (callsIn_wide.2 (nodes_any _ _ _ _ _ _ _)).mono ?_; rintro e w' ⟨rfl, rfl⟩))
  obtain ⟨V, hV⟩ : ∃ V, ((((w.alloc (.cells #[.int .i64 T.kind, .int .i64 T.num, .string T.name, .slice au T.len cu] 37)).alloc (.cells #[.bool false] 4)).alloc (.cells #[.int .i64 T.kind, .int .i64 T.num, .string T.name, .slice au T.len cu] 37)).alloc (.cells #[.int .i64 T.kind, .int .i64 T.num, .string T.name, .slice au T.len cu] 37)).alloc (.cells #[.func (.func 59) #[] #[]] 76) = V := ⟨_, rfl⟩
  have hsz : V.heap.size = w.heap.size + 5 := by rw [← hV]; simp
  have hb0 : Below w.heap.size w V := by
    rw [← hV]
    exact (((((Below.refl _ w).alloc (Nat.le_refl _) _).alloc (by simp) _).alloc (by simp; omega) _).alloc (by simp; omega) _).alloc (by simp; omega) _
  have c0 : V.cell? ⟨w.heap.size + 1 + 1 + 1, 0, none⟩ = some (.int .i64 T.kind) := by rw [← hV]; simp [go_sem]
  have c1 : V.cell? ⟨w.heap.size + 1 + 1 + 1, 1, none⟩ = some (.int .i64 T.num) := by rw [← hV]; simp [go_sem]
  have c2 : V.cell? ⟨w.heap.size + 1 + 1 + 1, 2, none⟩ = some (.string T.name) := by rw [← hV]; simp [go_sem]
  have c3 : V.cell? ⟨w.heap.size + 1 + 1 + 1, 3, none⟩ = some (.slice au T.len cu) := by rw [← hV]; simp [go_sem]
  have c4 : V.cell? ⟨w.heap.size + 1 + 1 + 1 + 1, 0, none⟩ = some (.func (.func 59) #[] #[]) := by rw [← hV]; simp [go_sem]
  have b1 := Boxed.new (w.alloc (.cells #[.int .i64 T.kind, .int .i64 T.num, .string T.name, .slice au T.len cu] 37)) 4 (.bool false)
  simp only [World.size_alloc] at b1
  have hI0 : HpI w [] V := by
    refine ⟨hb0, ?_, (fun x hx => by cases hx), by omega⟩
    rw [← hV]; exact ((b1.alloc _).alloc _).alloc _
  have hIU : Under V.heap.size (HpI w) := fun pre A C h hb => by
    have hz := h.size
    exact ⟨h.below.trans (hb.mono (by omega)), (hb.block _ (by omega)).trans h.res, h.ok, by have := hb.size; omega⟩
  have hXU : ∀ c, Under V.heap.size (fun (_ : List Ent) W => HpX w T c W) := fun c pre A C h hb => by
    have hz := h.size
    exact ⟨h.ret, h.below.trans (hb.mono (by omega)), (hb.block _ (by omega)).trans h.res, h.bad, by have := hb.size; omega⟩
  rw [hV]
  clear hV b1
  have hn := T.fine_len hf
  have hr' := row_wide hr (Nat.le_refl _) hhi
  refine wpIn_rangeFunc_frame (α := Ent) (encs := wenc) (S := WAll T) (Sp := fun _ => True) (Came := WCame T w.heap.size w) (mine := fun k => False) rfl (by omega) (gf := 69) (lb := #[.pointer (some ⟨w.heap.size + 1 + 1 + 1, 0, none⟩), .pointer (some ⟨w.heap.size + 1 + 1 + 1 + 1, 0, none⟩)]) rfl trivial (enters_of Tryd.func69 (by kernel_rfl) rfl)
    (fun l J Jx W hWs hbW hJ hJx hJz hY h0 => by
      have hcell : ∀ b o, b < V.heap.size → W.cell? ⟨b, o, none⟩ = V.cell? ⟨b, o, none⟩ := fun b o hb => hbW.cell (p := ⟨b, o, none⟩) hb
      exact walk_in 2 (by omega) T (.slice au T.len cu) w.heap.size V.heap.size (w.heap.size + 1 + 1 + 1) (w.heap.size + 1 + 1 + 1 + 1) l (fun k => False) J Jx w W hf hc hWs (by omega) (by omega) (by omega) (fun k hk => hk.elim) (fun k hk => ((hbW.block k (by omega)).trans (hb0.block k hk))) hr' hJ hJz hY h0
        ((hcell _ _ (by omega)).trans c0) ((hcell _ _ (by omega)).trans c1) ((hcell _ _ (by omega)).trans c2) ((hcell _ _ (by omega)).trans c3) ((hcell _ _ (by omega)).trans c4))
    (fun _ => rfl) (HpI w) (fun c _ W => HpX w T c W) hIU hXU hI0
    (fun x W => { tmps := #[.agg #[.int .i64 T.kind, .int .i64 T.num, .string T.name, .slice au T.len cu], .pointer (some ⟨w.heap.size, 0, none⟩), .pointer (some ⟨w.heap.size + 1, 0, none⟩), .pointer (some ⟨W.heap.size, 0, none⟩), .agg #[.int .i64 T.kind, .int .i64 T.num, .string T.name, .slice au T.len cu], .func (.func 69) #[] #[.pointer (some ⟨w.heap.size + 1 + 1 + 1, 0, none⟩), .pointer (some ⟨w.heap.size + 1 + 1 + 1 + 1, 0, none⟩)], x.D.val x.v, .int .i64 (x.d : Int), undef, undef, undef], defers := [] })
    (fun x W => W.alloc (.cells #[.int .i64 x.D.kind, .int .i64 x.D.num, .string x.D.name, x.v] 37)) (fun x W => (Below.refl _ _).alloc (Nat.le_refl _) _) ?assign ?body ?done ?stop
  case assign =>
    rintro l pre ⟨D, d, v⟩ W K ⟨_, hxr, _⟩ hK
    obtain ⟨a, c, hv, _⟩ := row_eq.1 hxr
    have hv : v = .slice a D.len c := hv
    subst hv
    simp only [wenc, Nd.val]
    gi_wp2
    exact hK
  case body =>
    rintro l pre ⟨D, d, v⟩ W1 W3 r hi' hz ⟨⟨rest, hcame⟩, hxr, hxf⟩ hW3 hi3
    obtain ⟨av, cv, hv, _⟩ := row_eq.1 hxr
    have hv : v = .slice av D.len cv := hv
    subst hv
    have hcame : pre.map key ++ (D, d) :: rest = T.pre 0 := hcame
    have qr := hi3.res.cell
    have qrf := hi3.res.frozen
    have hbz : W3.heap.size = W1.heap.size + 1 := by rw [hW3]; simp
    have hbx : W3.heap[W1.heap.size]? = some (.cells #[.int .i64 D.kind, .int .i64 D.num, .string D.name, .slice av D.len cv] 37) := by
      rw [hW3, World.putObj_heap_other (by omega)]; exact World.alloc_heap_new W1 _
    have x0 : W3.cell? ⟨W1.heap.size, 0, none⟩ = some (.int .i64 D.kind) := (cell_of_row _ _ 0 _ _ (0, 0) hbx).trans rfl
    have hz1 := hi'.size
    have HBAD : Hid (D.kind = 30 → hasPk T = true) := fun h => hasPk_yes (p := (D, d)) (by rw [← hcame]; simp) h
    have HI := hid_mk hi3
    have HOK := hid_mk hi'.ok
    have hzi := HI.out.size
    clear hcame hxr hxf hi' hi3 hW3 hI0 hIU hXU c0 c1 c2 c3 c4 hbx
    by_cases hk : D.kind = 30
    · have HB2 := hid_mk (HBAD.out hk)
      have hkb : (D.kind == 30) = true := by simp [hk]
      clear hk
      gi_wp2_with (refine ⟨trivial, ?_⟩)
      refine ⟨KeepsOthers.setCell _ _ _, rfl, HI.out.below.setCell (p := ⟨w.heap.size + 1, 0, none⟩) (by show w.heap.size ≤ w.heap.size + 1; omega) _, HI.out.res.set (.bool true), HB2.out, ?_⟩
      simp [World.setCell]; omega
    · have hkb : (D.kind == 30) = false := by simp [hk]
      have HK := hid_mk hk
      clear hk
      gi_wp2_with (refine ⟨trivial, ?_⟩)
      refine ⟨keeps_below (Below.refl _ _), KeptF.refl _ _, HI.out.below, HI.out.res, ?_, by omega⟩
      intro x hx
      rcases List.mem_append.1 hx with hx | hx
      · exact HOK.out x hx
      · rw [List.mem_singleton.1 hx]; exact HK.out
  case done =>
    rintro D xs W hD hS hi' hK
    have HG : Hid (hasPk T = false) := hasPk_no (fun q hq => by rw [← hS] at hq; obtain ⟨x, hx, rfl⟩ := List.mem_map.1 hq; exact hi'.ok x hx)
    have qr := hi'.res.cell
    have qrf := hi'.res.frozen
    have HI := hid_mk hi'
    have HK := hid_mk hK
    clear hS hi' hK hI0 hIU hXU c0 c1 c2 c3 c4
    gi_wp2
    have h := HI.out
    have r0 := h.res.set (.bool false)
    have hK3 : (W.setCell ⟨w.heap.size + 1, 0, none⟩ (.bool false)).heap[D]? = some (.deferred (some [])) := (Below.heap_setCell _ _ _ _ (by show D ≠ w.heap.size + 1; omega)).trans HK.out
    have hb3 := h.below.setCell (p := ⟨w.heap.size + 1, 0, none⟩) (by show w.heap.size ≤ w.heap.size + 1; omega) (.bool false)
    revert r0 hK3 hb3
    generalize W.setCell ⟨w.heap.size + 1, 0, none⟩ (.bool false) = X
    intro r0 hK3 hb3
    refine ⟨by simp, .inl ⟨_, _, rfl, run_takeDeferred hK3, ?_⟩⟩
    have gp := grownBy_putObj' X D (.deferred none)
    have p0 := (r0.kept gp (fun e => by have := Option.some.inj e; omega)).cell
    refine ⟨.bool false, by simp [results, Tryd.results60, go_sem, p0], ret_bool HG.out.symm, ?_⟩
    exact hb3.grown gp (by have := hb3.size; omega) (fun k e => by have := Option.some.inj e; omega)
  case stop =>
    rintro D c pre W hD _ hx hK
    obtain rfl := hx.ret
    have hb3 := hx.below
    have r0 := hx.res
    have HO := hid_mk hx.bad
    clear hx hI0 hIU hXU c0 c1 c2 c3 c4
    gi_wp2
    refine ⟨by simp, .inl ⟨_, _, rfl, run_takeDeferred hK, ?_⟩⟩
    have gp := grownBy_putObj' W D (.deferred none)
    have p0 := (r0.kept gp (fun e => by have := Option.some.inj e; omega)).cell
    refine ⟨.bool true, by simp [results, Tryd.results60, go_sem, p0], ret_bool HO.out.symm, ?_⟩
    exact hb3.grown gp (by have := hb3.size; omega) (fun k e => by have := Option.some.inj e; omega)
end Go.Proofs.YtjgbjahcnnjfpaaDoor
namespace Go.Proofs.YtjgbjahcnnjfpaaDoor
open Go.RowKit Go.Shelf
attribute [local go_sem] Oper.semAt_some

theorem empty_iff {s : ByteArray} : s.toList.isEmpty = true ↔ s = ⟨#[]⟩ := by
  rw [ByteArray.toList_eq]
  constructor
  · intro h
    cases s with
    | mk d => cases d with | mk l => simp at h; subst h; rfl
  · rintro rfl; rfl

theorem counter_any (x : Int) (w : World) : Calls Tryd.prog 45 #[.int .i64 x] w fun e w' => e = .returned (.func (.func 57) #[] #[.pointer (some ⟨w.heap.size, 0, none⟩)]) ∧ w' = w.alloc (.cells #[.int .i64 x] 3) := by
  go_enter Tryd.func45, Tryd.ntmps45
  go_wp2
  go_ret
  exact ⟨rfl, rfl⟩

theorem number_any (x n : Int) (nb : Nat) (w : World) (hb : Boxed w nb 3 (.int .i64 x)) (hx0 : 0 ≤ x) (hx1 : x ≤ 10000000) (hn0 : 0 ≤ n) (hn1 : n ≤ 10000000) :
    Calls Tryd.prog 57 #[.int .i64 n, .pointer (some ⟨nb, 0, none⟩)] w fun e w' => e = .returned (.int .i64 x) ∧ w' = w.setCell ⟨nb, 0, none⟩ (.int .i64 (x + n)) := by
  have q := hb.cell
  have qf := hb.frozen
  clear hb
  go_enter Tryd.func57, Tryd.ntmps57
  go_wp2
  go_ret
  exact ⟨rfl, rfl⟩

theorem set_both {B nb : Nat} {A C : World} {t : TypeId} {x : Value} (hb : Below B A C) (hA : Boxed A nb t x) (hC : Boxed C nb t x) (v : Value) : Below B (A.setCell ⟨nb, 0, none⟩ v) (C.setCell ⟨nb, 0, none⟩ v) :=
  ⟨hb.os, hb.tape, hb.output, by simp only [World.setCell, Array.size_modify]; exact hb.size, fun k hk => by
    by_cases e : k = nb
    · subst e; exact (hC.set v).trans (hA.set v).symm
    · exact (Below.heap_setCell _ _ _ _ e).trans ((hb.block k hk).trans (Below.heap_setCell _ _ _ _ e).symm)⟩

def fitP (D : Nd) (x : Int) : Prop := D.num = x ∧ D.name = ⟨#[]⟩ ∧ 2 ≤ D.len ∧ (D.kids 0).kind ≠ 30 ∧ sumTo (fun i => if i = 0 then 0 else picksT (D.kids i)) D.len = 0
def FitPost (D : Nd) (x : Int) (nb : Nat) (w : World) (e : Ending) (w' : World) : Prop :=
  (fitP D x ∧ e = .returned (.bool true) ∧ Below w.heap.size (w.setCell ⟨nb, 0, none⟩ (.int .i64 (x + ((D.len : Int) - 1)))) w') ∨ (¬ fitP D x ∧ e = .returned (.bool false) ∧ (Below w.heap.size w w' ∨ ∃ y, Below w.heap.size (w.setCell ⟨nb, 0, none⟩ y) w'))

theorem fit_others {D : Nd} : (∀ i, 1 ≤ i → i < D.len → picksT (D.kids i) = 0) → sumTo (fun i => if i = 0 then 0 else picksT (D.kids i)) D.len = 0 := fun h =>
  sum_all fun i hi => by
    by_cases e : i = 0
    · rw [if_pos e]
    · rw [if_neg e]; exact h i (by omega) hi
theorem fit_other {D : Nd} {x : Int} {i : Nat} (h1 : 1 ≤ i) (hi : i < D.len) (h : hasPk (D.kids i) = true) : ¬ fitP D x := fun hp => by
  have := sum_zero hp.2.2.2.2 i hi
  rw [if_neg (by omega)] at this
  unfold hasPk at h
  simp at h
  omega

set_option maxHeartbeats 4000000 in
set_option maxRecDepth 100000 in
theorem pick_fits (D : Nd) (x : Int) (w : World) (u : Value) (hi nb : Nat) (hf : D.Fine) (hhi : hi ≤ nb) (hnb : nb < w.heap.size) (hr : Row 0 hi w D u) (hc : D.cost ≤ 1048576) (hx0 : 1 ≤ x) (hx1 : x ≤ 5000000) (hbox : Boxed w nb 3 (.int .i64 x)) :
    Calls Tryd.prog 47 #[D.val u, .func (.func 57) #[] #[.pointer (some ⟨nb, 0, none⟩)]] w (FitPost D x nb w) := by
  have hn := D.fine_len hf
  obtain ⟨a, cap, rfl, hcap, hq⟩ := row_eq.1 hr
  have hce := D.cost_eq
  have hl20 : D.len ≤ 1048576 := by omega
  have HB1 : ∀ o : Obj, Hid (Below w.heap.size w (w.alloc o)) := fun o => (Below.refl _ _).alloc (Nat.le_refl _) _
  have HEM := hid_mk (@empty_iff D.name)
  unfold Nd.val
  cases he : D.name.toList.isEmpty
  case false =>
    have HN : Hid (¬ fitP D x) := fun h => by rw [HEM.out.2 h.2.1] at he; cases he
    generalize D.name = ts at *
    clear hr hq hf
    go_enter Tryd.func47, Tryd.ntmps47
    go_wp2
    go_ret
    exact .inr ⟨HN.out, rfl, .inl (HB1 _).out⟩
  by_cases hl : 2 ≤ D.len
  case neg =>
    have HN : Hid (¬ fitP D x) := fun h => hl h.2.2.1
    have hl' : (D.len : Int) < 2 := by omega
    generalize D.name = ts at *
    clear hr hq hf hl
    go_enter Tryd.func47, Tryd.ntmps47
    go_wp2
    go_ret
    exact .inr ⟨HN.out, rfl, .inl (HB1 _).out⟩
  have hl' : ¬ (D.len : Int) < 2 := by omega
  have hl0 : 0 < D.len := by omega
  have hli : (0 : Int) < (D.len : Int) := by omega
  rcases hq with h0 | ⟨g, off, rfl, hg0, hg1, hq⟩
  · omega
  obtain ⟨u0, z0, z1, z2, z3, zr⟩ := hq 0 hl0
  simp only [Nat.zero_mul, Nat.add_zero] at z0 z1 z2 z3
  have hgw : g < w.heap.size := by omega
  by_cases hk0 : (D.kids 0).kind = 30
  case pos =>
    have HN : Hid (¬ fitP D x) := fun h => h.2.2.2.1 hk0
    have hk' : ((D.kids 0).kind == 30) = true := by simp [hk0]
    generalize D.name = ts at *
    generalize (D.kids 0).kind = kk at *
    clear hr hq hf hk0
    go_enter Tryd.func47, Tryd.ntmps47
    go_wp2
    go_ret
    exact .inr ⟨HN.out, rfl, .inl (HB1 _).out⟩
  have hk' : ((D.kids 0).kind == 30) = false := by simp [hk0]
  have HK0 := hid_mk hk0
  have HQ := hid_mk hq
  have HF := hid_mk hf
  have HR := hid_mk hr
  have HEN : Hid (D.name = ⟨#[]⟩) := HEM.out.1 he
  clear hr hq hf hk0 HEM z1 z2 z3 zr
  have hb0 : Below w.heap.size w (w.alloc (.cells #[.int .i64 D.kind, .int .i64 D.num, .string D.name, .slice (some ⟨g, off, none⟩) D.len cap] 37)) := (Below.refl _ _).alloc (Nat.le_refl _) _
  have HBX : Hid (Boxed ((w.alloc (.cells #[.int .i64 D.kind, .int .i64 D.num, .string D.name, .slice (some ⟨g, off, none⟩) D.len cap] 37)).drew) nb 3 (.int .i64 x)) := (hb0.block _ hnb).trans hbox
  clear hb0 hbox
  have hnn : ¬ w.heap.size = nb := by omega
  have hnn' : ¬ nb = w.heap.size := by omega
  by_cases hnx : D.num = x
  case neg =>
    have HN : Hid (¬ fitP D x) := fun h => hnx h.1
    have hnb' : (D.num != x) = true := by simp [hnx]
    clear hnx
    go_enter Tryd.func47, Tryd.ntmps47
    go_wp2_with fail
    go_region_with (go_at_call 57; refine (number_any x ((D.len - 1 : Nat) : Int) nb _ HBX.out (by omega) (by omega) (by omega) (by omega)).mono ?_; rintro e w1 ⟨rfl, rfl⟩)
    all_goals go_wp2
    all_goals go_ret
    all_goals exact .inr ⟨HN.out, rfl, .inr ⟨_, ((Below.refl _ _).alloc (by simp only [World.setCell, Array.size_modify]; exact Nat.le_refl _) _).drew⟩⟩
  have HNX := hid_mk hnx
  have hnb' : (D.num != x) = false := by simp [hnx]
  clear hnx
  have hcd : ((D.len - 1 : Nat) : Int) = (D.len : Int) - 1 := by omega
  have HCD := hid_mk hcd
  clear hcd
  go_enter Tryd.func47, Tryd.ntmps47
  go_wp2_with fail
  go_region_with (go_at_call 57; refine (number_any x ((D.len - 1 : Nat) : Int) nb _ HBX.out (by omega) (by omega) (by omega) (by omega)).mono ?_; rintro e w1 ⟨rfl, rfl⟩)
  all_goals go_wp2_with fail
  all_goals
    have hzs : ((w.setCell ⟨nb, 0, none⟩ (.int .i64 (x + ((D.len - 1 : Nat) : Int)))).heap.size) = w.heap.size := by simp only [World.setCell, Array.size_modify]
    have B5 : Hid (Below w.heap.size (w.setCell ⟨nb, 0, none⟩ (.int .i64 (x + ((D.len - 1 : Nat) : Int)))) ((w.setCell ⟨nb, 0, none⟩ (.int .i64 (x + ((D.len - 1 : Nat) : Int)))).alloc (.cells #[.int .i64 D.kind, .int .i64 D.num, .string D.name, .slice (some ⟨g, off, none⟩) D.len cap] 37)).drew) := ((Below.refl _ _).alloc (by rw [hzs]; exact Nat.le_refl _) _).drew
    have N5 : Hid (Below nb w ((w.setCell ⟨nb, 0, none⟩ (.int .i64 (x + ((D.len - 1 : Nat) : Int)))).alloc (.cells #[.int .i64 D.kind, .int .i64 D.num, .string D.name, .slice (some ⟨g, off, none⟩) D.len cap] 37)).drew) := (((Below.refl nb w).setCell (p := ⟨nb, 0, none⟩) (Nat.le_refl _) _).alloc (by rw [hzs]; omega) _).drew
    have Z5 : Hid ((((w.setCell ⟨nb, 0, none⟩ (.int .i64 (x + ((D.len - 1 : Nat) : Int)))).alloc (.cells #[.int .i64 D.kind, .int .i64 D.num, .string D.name, .slice (some ⟨g, off, none⟩) D.len cap] 37)).drew).heap.size = w.heap.size + 1) := by unfold Hid; show (World.alloc _ _).heap.size = _; rw [World.size_alloc, hzs]
    clear hzs
    revert B5 N5 Z5
    generalize ((w.setCell ⟨nb, 0, none⟩ (.int .i64 (x + ((D.len - 1 : Nat) : Int)))).alloc (.cells #[.int .i64 D.kind, .int .i64 D.num, .string D.name, .slice (some ⟨g, off, none⟩) D.len cap] 37)).drew = W5
    intro B5 N5 Z5
    go_loopw [37] (fun i wr => ∃ j : Nat, i = .int .i64 (j : Int) ∧ j + 1 ≤ D.len ∧ Below W5.heap.size W5 wr ∧ ∀ i, 1 ≤ i → i < j + 1 → picksT (D.kids i) = 0) (fun i _ => D.len - (intOf i).toNat)
    case atStart => exact ⟨0, rfl, by omega, Below.refl _ _, fun i h1 h2 => by omega⟩
    case round =>
      obtain ⟨j, rfl, hj, hbr, hpk⟩ := hrel
      have HBR := hid_mk hbr
      have HPK := hid_mk hpk
      have hzr := hbr.size
      clear hbr hpk
      by_cases hlt : j < D.len - 1
      · have hbw : Below nb w wr := N5.out.trans (HBR.out.mono (by have := Z5.out; omega))
        obtain ⟨uj, e0, e1, e2, e3, hrj⟩ := HQ.out (j + 1) (by omega)
        have hgn : g < nb := by omega
        rw [show off + (j + 1) * 4 = off + 4 + j * 4 by omega] at e0 e1 e2 e3
        rw [← hbw.cell (p := ⟨g, _, none⟩) hgn] at e0 e1 e2 e3
        obtain ⟨xa, xc, rfl⟩ : ∃ xa xc, uj = .slice xa (D.kids (j + 1)).len xc := by obtain ⟨a', c', h, _⟩ := row_eq.1 hrj; exact ⟨a', c', h⟩
        have HP : Hid (∀ W, Below wr.heap.size wr W → Calls Tryd.prog 60 #[(D.kids (j + 1)).val (.slice xa (D.kids (j + 1)).len xc)] W fun e w' => e = .returned (.bool (hasPk (D.kids (j + 1)))) ∧ Below W.heap.size W w') := fun W hbW =>
          has_pick (D.kids (j + 1)) W _ hi (Nd.fine_kid HF.out (by omega)) (by have := hbW.size; have := Z5.out; omega) (row_below (hbw.trans (hbW.mono (by have := Z5.out; omega))) hhi hrj) (Nat.le_trans (D.cost_kid (by omega)) hc)
        unfold Nd.val at HP
        have hji : (j : Int) < ((D.len - 1 : Nat) : Int) := by omega
        clear hrj hbw
        have HBA : ∀ o : Obj, Hid (Below wr.heap.size wr (wr.alloc o)) := fun o => (Below.refl _ _).alloc (Nat.le_refl _) _
        cases hhp : hasPk (D.kids (j + 1))
        · have HZ : Hid (picksT (D.kids (j + 1)) = 0) := by unfold hasPk at hhp; unfold Hid; simpa using hhp
          go_wp2_with (go_at_call 60; refine (HP.out _ (HBA _).out).mono ?_; rw [hhp]; rintro e w6 ⟨rfl, hb6⟩; have B6 := hid_mk (HBR.out.trans (((HBA _).out.trans (hb6.mono (by simp))).mono hzr)); clear hb6)
          go_roundw
          case rel => exact ⟨j + 1, by go_num, by omega, B6.out, fun i h1 h2 => by
              by_cases e : i = j + 1
              · subst e; exact HZ.out
              · exact HPK.out i h1 (by omega)⟩
          case measure => simp [intOf]; omega
        · have HN : Hid (¬ fitP D x) := fit_other (i := j + 1) (by omega) (by omega) hhp
          go_wp2_with (go_at_call 60; refine (HP.out _ (HBA _).out).mono ?_; rw [hhp]; rintro e w6 ⟨rfl, hb6⟩; have B6 := hid_mk (HBR.out.trans (((HBA _).out.trans (hb6.mono (by simp))).mono hzr)); clear hb6)
          go_ret
          exact .inr ⟨HN.out, rfl, .inr ⟨_, B5.out.trans (B6.out.mono (by have := Z5.out; omega))⟩⟩
      · have hji : ¬ (j : Int) < ((D.len - 1 : Nat) : Int) := by omega
        have HN : Hid (fitP D x) := ⟨HNX.out, HEN.out, by omega, HK0.out, fit_others fun i h1 h2 => HPK.out i h1 (by omega)⟩
        go_wp2
        go_ret
        refine .inl ⟨HN.out, rfl, ?_⟩
        rw [← HCD.out]
        exact B5.out.trans (HBR.out.mono (by have := Z5.out; omega))
end Go.Proofs.YtjgbjahcnnjfpaaDoor
