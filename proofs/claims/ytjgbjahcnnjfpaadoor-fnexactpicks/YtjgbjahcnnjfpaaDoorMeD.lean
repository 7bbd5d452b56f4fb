/- The numbers of picks, met one node behind the other: the same as those along the tree. -/
import Derived.Test.YtjgbjahcnnjfpaaDoorMeB
import Derived.Test.YtjgbjahcnnjfpaaDoorMeC
set_option linter.unusedVariables false
namespace Go.Proofs.YtjgbjahcnnjfpaaDoor
open Go.RowKit

def nextP (D : Nd) (x : Int) : Int := if D.kind = 30 then x + ((D.len : Int) - 1) else x
def numL : List (Nd × Nat) → Int → Int
  | [], x => x
  | p :: r, x => numL r (nextP p.1 x)
def okL : List (Nd × Nat) → Int → Prop
  | [], _ => True
  | p :: r, x => (p.1.kind = 30 → fitP p.1 x) ∧ okL r (nextP p.1 x)
theorem numL_app : ∀ (A B : List (Nd × Nat)) (x : Int), numL (A ++ B) x = numL B (numL A x)
  | [], _, _ => rfl
  | p :: A, B, x => by simp only [List.cons_append, numL]; exact numL_app A B _
theorem okL_app : ∀ (A B : List (Nd × Nat)) (x : Int), okL (A ++ B) x ↔ okL A x ∧ okL B (numL A x)
  | [], B, x => by simp [okL, numL]
  | p :: A, B, x => by simp only [List.cons_append, okL, numL]; rw [okL_app A B, and_assoc]
theorem okL_none : ∀ (L : List (Nd × Nat)) (x : Int), (∀ p, p ∈ L → ¬ p.1.kind = 30) → okL L x ∧ numL L x = x
  | [], x, _ => ⟨trivial, rfl⟩
  | p :: L, x, h => by
    have hp := h p (List.mem_cons_self ..)
    have hn : nextP p.1 x = x := if_neg hp
    have ih := okL_none L x fun q hq => h q (List.mem_cons_of_mem _ hq)
    simp only [okL, numL, hn]
    exact ⟨⟨fun e => absurd e hp, ih.1⟩, ih.2⟩
theorem numL_le : ∀ (L : List (Nd × Nat)) (x : Int), okL L x → x ≤ numL L x ∧ numL L x ≤ x + (lens L : Int)
  | [], x, _ => by simp [numL, lens]
  | p :: L, x, h => by
    obtain ⟨h1, h2⟩ := h
    have ih := numL_le L _ h2
    have hl : lens (p :: L) = p.1.len + lens L := by simp [lens]
    simp only [numL]
    rw [hl]
    by_cases e : p.1.kind = 30
    · have hf := h1 e
      have : nextP p.1 x = x + ((p.1.len : Int) - 1) := if_pos e
      have h2 := hf.2.2.1
      omega
    · have : nextP p.1 x = x := if_neg e
      omega
theorem right_runs (T : Nd) : ∀ (d : Nat) (x : Int), 1 ≤ x → (okL (T.pre d) x ↔ ¬ rightT T x = -1) ∧ (okL (T.pre d) x → numL (T.pre d) x = rightT T x) := by
  induction T with
  | nil =>
    intro d x hx
    refine ⟨⟨fun _ => ?_, fun _ => ?_⟩, fun _ => rfl⟩
    · show ¬ x = -1; omega
    · refine ⟨(fun e => by cases e), trivial⟩
  | mk k n s len kids ih =>
    intro d x hx
    rw [pre_eq]
    by_cases hk : k = 30
    · have hrt := right_eq (.mk k n s len kids) x
      rw [if_pos (show (Nd.mk k n s len kids).kind = 30 from hk)] at hrt
      have hnx : nextP (.mk k n s len kids) x = x + ((len : Int) - 1) := if_pos hk
      by_cases hc : fitP (.mk k n s len kids) x
      · have hcu := hc; unfold fitP at hcu; rw [if_pos hcu] at hrt
        obtain ⟨h1, h2, h3, h4, h5⟩ := hc
        have h3 : 2 ≤ len := h3
        have hsp : preL (.mk k n s len kids) (d + 1) = (kids 0).pre (d + 1) ++ preL (tailN (.mk k n s len kids)) (d + 1) := preL_cons (D := .mk k n s len kids) (show 0 < len by omega) (d + 1)
        have hno : ∀ p, p ∈ preL (tailN (.mk k n s len kids)) (d + 1) → ¬ p.1.kind = 30 := fun p hp => by
          obtain ⟨i, hi, hp⟩ := List.mem_flatMap.1 hp
          have hi : i < len - 1 := List.mem_range.1 hi
          have := sum_zero (f := fun i => if i = 0 then 0 else picksT (kids i)) (n := len) h5 (i + 1) (by omega)
          rw [if_neg (by omega)] at this
          exact (picks_pre (kids (i + 1)) (d + 1)).1 this p hp
        obtain ⟨i1, i2⟩ := ih 0 (d + 1) (x + ((len : Int) - 1)) (by omega)
        obtain ⟨n1, n2⟩ := okL_none _ (numL ((kids 0).pre (d + 1)) (x + ((len : Int) - 1))) hno
        have hrt' : rightT (.mk k n s len kids) x = rightT (kids 0) (x + ((len : Int) - 1)) := hrt
        rw [hrt']
        simp only [okL, numL, hnx, hsp]
        rw [okL_app, numL_app, n2]
        refine ⟨⟨fun h => i1.1 h.2.1, fun h => ⟨fun _ => ⟨h1, h2, h3, h4, h5⟩, i1.2 h, n1⟩⟩, fun h => i2 h.2.1⟩
      · have hcu := hc; unfold fitP at hcu; rw [if_neg hcu] at hrt
        rw [hrt]
        refine ⟨⟨fun h => absurd (h.1 hk) hc, fun h => absurd rfl h⟩, fun h => absurd (h.1 hk) hc⟩
    · have hrt := right_eq (.mk k n s len kids) x
      rw [if_neg (show ¬ (Nd.mk k n s len kids).kind = 30 from hk)] at hrt
      have hnx : nextP (.mk k n s len kids) x = x := if_neg hk
      rw [hrt]
      simp only [okL, numL, hnx]
      have hm : ∀ m, m ≤ len → (okL ((List.range m).flatMap fun i => (kids i).pre (d + 1)) x ↔ ¬ runR (fun i y => rightT (kids i) y) m x = -1) ∧ (okL ((List.range m).flatMap fun i => (kids i).pre (d + 1)) x → numL ((List.range m).flatMap fun i => (kids i).pre (d + 1)) x = runR (fun i y => rightT (kids i) y) m x) := by
        intro m
        induction m with
        | zero =>
          intro _
          refine ⟨⟨fun _ => ?_, fun _ => trivial⟩, fun _ => rfl⟩
          show ¬ x = -1; omega
        | succ m ihm =>
          intro hml
          obtain ⟨j1, j2⟩ := ihm (by omega)
          rw [List.range_succ, List.flatMap_append]
          simp only [List.flatMap_cons, List.flatMap_nil, List.append_nil]
          rw [okL_app, numL_app]
          by_cases hok : okL ((List.range m).flatMap fun i => (kids i).pre (d + 1)) x
          · have e := j2 hok
            have hge := (numL_le _ _ hok).1
            rw [e] at hge ⊢
            have hrn : runR (fun i y => rightT (kids i) y) (m + 1) x = rightT (kids m) (runR (fun i y => rightT (kids i) y) m x) := by
              show (if 0 < runR (fun i y => rightT (kids i) y) m x then _ else _) = _
              rw [if_pos (by omega)]
            rw [hrn]
            obtain ⟨i1, i2⟩ := ih m (d + 1) (runR (fun i y => rightT (kids i) y) m x) (by omega)
            exact ⟨⟨fun h => i1.1 h.2, fun h => ⟨hok, i1.2 h⟩⟩, fun h => i2 h.2⟩
          · have e : runR (fun i y => rightT (kids i) y) m x = -1 := by
              by_cases e : runR (fun i y => rightT (kids i) y) m x = -1
              · exact e
              · exact absurd (j1.2 e) hok
            have hrn : runR (fun i y => rightT (kids i) y) (m + 1) x = -1 := by
              show (if 0 < runR (fun i y => rightT (kids i) y) m x then _ else _) = _
              rw [if_neg (by omega)]; exact e
            rw [hrn]
            exact ⟨⟨fun h => absurd h.1 hok, fun h => absurd rfl h⟩, fun h => absurd h.1 hok⟩
      obtain ⟨a1, a2⟩ := hm len (Nat.le_refl _)
      exact ⟨⟨fun h => a1.1 h.2, fun h => ⟨fun e => absurd e hk, a1.2 h⟩⟩, fun h => a2 h.2⟩

theorem isum_none {f : Nat → Int} : ∀ {n : Nat}, (∀ i, i < n → f i = 0) → isum f n = 0
  | 0, _ => rfl
  | n + 1, h => by simp only [isum]; rw [isum_none fun i hi => h i (by omega), h n (by omega)]; rfl
theorem isum_first {f : Nat → Int} : ∀ {n : Nat}, 1 ≤ n → (∀ i, 1 ≤ i → i < n → f i = 0) → isum f n = f 0
  | 1, _, _ => by simp [isum]
  | n + 2, _, h => by
    show isum f (n + 1) + f (n + 1) = f 0
    rw [isum_first (n := n + 1) (by omega) fun i h1 h2 => h i h1 (by omega), h (n + 1) (by omega) (by omega)]; omega
theorem ways_none (T : Nd) : picksT T = 0 → waysT T = 0 := by
  induction T with
  | nil => exact fun _ => rfl
  | mk k n s len kids ih =>
    intro h
    rw [picks_eq] at h
    have h0 : (if k = 30 then 1 else 0) + sumTo (fun i => picksT (kids i)) len = 0 := h
    have hk : ¬ k = 30 := fun e => by rw [if_pos e] at h0; omega
    rw [if_neg hk] at h0
    rw [ways_eq]
    show (if k = 30 then (len : Int) - 1 else 0) + isum (fun i => waysT (kids i)) len = 0
    rw [if_neg hk, isum_none fun i hi => ih i (sum_zero (f := fun i => picksT (kids i)) (n := len) (by omega) i hi)]; rfl
theorem right_ways (T : Nd) : ∀ x : Int, 1 ≤ x → ¬ rightT T x = -1 → rightT T x = x + waysT T := by
  induction T with
  | nil => intro x _ _; show x = x + 0; omega
  | mk k n s len kids ih =>
    intro x hx h
    have hrt := right_eq (.mk k n s len kids) x
    have hwe := ways_eq (.mk k n s len kids)
    by_cases hk : k = 30
    · rw [if_pos (show (Nd.mk k n s len kids).kind = 30 from hk)] at hrt hwe
      by_cases hc : fitP (.mk k n s len kids) x
      · have hcu := hc; unfold fitP at hcu; rw [if_pos hcu] at hrt
        have h3 : 2 ≤ len := hc.2.2.1
        have hrt' : rightT (.mk k n s len kids) x = rightT (kids 0) (x + ((len : Int) - 1)) := hrt
        have := ih 0 (x + ((len : Int) - 1)) (by omega) (by rw [← hrt']; exact h)
        have hwe' : waysT (.mk k n s len kids) = ((len : Int) - 1) + isum (fun i => waysT (kids i)) len := hwe
        rw [isum_first (f := fun i => waysT (kids i)) (n := len) (by omega) fun i h1 h2 => by
          have := sum_zero (f := fun i => if i = 0 then 0 else picksT (kids i)) (n := len) hc.2.2.2.2 i h2
          rw [if_neg (by omega)] at this
          exact ways_none _ this] at hwe'
        omega
      · have hcu := hc; unfold fitP at hcu; rw [if_neg hcu] at hrt; exact absurd hrt h
    · rw [if_neg (show ¬ (Nd.mk k n s len kids).kind = 30 from hk)] at hrt hwe
      have hm : ∀ m, m ≤ len → ¬ runR (fun i y => rightT (kids i) y) m x = -1 → x ≤ runR (fun i y => rightT (kids i) y) m x ∧ runR (fun i y => rightT (kids i) y) m x = x + isum (fun i => waysT (kids i)) m := by
        intro m
        induction m with
        | zero => intro _ _; exact ⟨Int.le_refl _, by show x = x + 0; omega⟩
        | succ m ihm =>
          intro hml hne
          by_cases e : runR (fun i y => rightT (kids i) y) m x = -1
          · exfalso
            apply hne
            show (if 0 < runR (fun i y => rightT (kids i) y) m x then _ else _) = _
            rw [if_neg (by omega)]; exact e
          · obtain ⟨j1, j2⟩ := ihm (by omega) e
            have hrn : runR (fun i y => rightT (kids i) y) (m + 1) x = rightT (kids m) (runR (fun i y => rightT (kids i) y) m x) := by
              show (if 0 < runR (fun i y => rightT (kids i) y) m x then _ else _) = _
              rw [if_pos (by omega)]
            rw [hrn] at hne ⊢
            have h1 := ih m (runR (fun i y => rightT (kids i) y) m x) (by omega) hne
            have h2 := right_ok (kids m) (runR (fun i y => rightT (kids i) y) m x) (by omega)
            refine ⟨?_, ?_⟩
            · rcases h2 with h2 | h2
              · exact absurd h2 hne
              · omega
            · show _ = x + (isum (fun i => waysT (kids i)) m + waysT (kids m))
              omega
      have hrt' : rightT (.mk k n s len kids) x = runR (fun i y => rightT (kids i) y) len x := hrt
      have hwe' : waysT (.mk k n s len kids) = 0 + isum (fun i => waysT (kids i)) len := hwe
      have := (hm len (Nat.le_refl _) (by rw [← hrt']; exact h)).2
      omega
theorem cost_pre (T : Nd) : ∀ d p, p ∈ T.pre d → p.1.cost ≤ T.cost := by
  induction T with
  | nil => intro d p hp; simp [Nd.pre] at hp; subst hp; exact Nat.le_refl _
  | mk k n s len kids ih =>
    intro d p hp
    rw [pre_eq] at hp
    rcases List.mem_cons.1 hp with rfl | hp
    · exact Nat.le_refl _
    · obtain ⟨i, hi, hp⟩ := List.mem_flatMap.1 hp
      have hi : i < len := List.mem_range.1 hi
      exact Nat.le_trans (ih i (d + 1) p hp) (Nd.cost_kid (.mk k n s len kids) hi)
theorem okL_fit : ∀ (L : List (Nd × Nat)) (x : Int), 1 ≤ x → okL L x → ∀ p, p ∈ L → p.1.kind = 30 → ∃ y, 1 ≤ y ∧ y ≤ x + (lens L : Int) ∧ fitP p.1 y
  | q :: L, x, hx, h, p, hp, hk => by
    have hl : lens (q :: L) = q.1.len + lens L := by simp [lens]
    rcases List.mem_cons.1 hp with rfl | hp
    · exact ⟨x, hx, by omega, h.1 hk⟩
    · have hb : 1 ≤ nextP q.1 x ∧ nextP q.1 x ≤ x + (q.1.len : Int) := by
        by_cases e : q.1.kind = 30
        · have := (h.1 e).2.2.1
          have e2 : nextP q.1 x = x + ((q.1.len : Int) - 1) := if_pos e
          omega
        · have e2 : nextP q.1 x = x := if_neg e
          omega
      obtain ⟨y, h1, h2, h3⟩ := okL_fit L _ hb.1 h.2 p hp hk
      exact ⟨y, h1, by omega, h3⟩
theorem gd_of (T : Nd) : ∀ d, (∀ p, p ∈ T.pre d → p.1.kind = 30 → ∃ y, 1 ≤ y ∧ y ≤ 10000000 ∧ fitP p.1 y) → GdT T := by
  induction T with
  | nil => exact fun _ _ => trivial
  | mk k n s len kids ih =>
    intro d h
    refine ⟨fun hk => ?_, fun i hi => ih i (d + 1) fun p hp hpk => h p ?_ hpk⟩
    · obtain ⟨y, h1, h2, hf⟩ := h (.mk k n s len kids, d) (by rw [pre_eq]; exact List.mem_cons_self ..) hk
      obtain ⟨f1, f2, f3, f4, f5⟩ := hf
      have f1 : n = y := f1
      have f3 : 2 ≤ len := f3
      refine ⟨by omega, by omega, fun i hi e => ?_⟩
      by_cases hi0 : i = 0
      · subst hi0; exact f4 e
      · have := sum_zero (f := fun i => if i = 0 then 0 else picksT (kids i)) (n := len) f5 i hi
        rw [if_neg hi0, picks_eq, if_pos e] at this
        omega
    · rw [pre_eq]
      exact List.mem_cons_of_mem _ (List.mem_flatMap.2 ⟨i, List.mem_range.2 hi, hp⟩)
end Go.Proofs.YtjgbjahcnnjfpaaDoor
