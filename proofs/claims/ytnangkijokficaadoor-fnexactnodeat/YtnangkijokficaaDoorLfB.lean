/- An element is added at the end of a list of one's own: where the new list lies. -/
import Derived.Test.YtnangkijokficaaDoorLaA
import Derived.WalkSpells
import Derived.WalkSmall
set_option linter.unusedVariables false
namespace Go.Proofs.YtnangkijokficaaDoor
open Go.RowKit

theorem append_freshG {P : Program} (w : World) (base : Nat) (t ty e : TypeId) (i : TypeInfo) (z : Value) (size bytes : Nat) (ht : P.underlying t = some (.slice e)) (hi : P.info? e = some i) (hz : i.zero = some z)
    (hsize : i.size = size) (hby : i.bytes = bytes) (hzs : z.cells.size = size) (hsz : 0 < size) (v : Value) (n : Nat) (xs : List Value) (hown : w.ownsRow base e size v n xs)
    (a : Addr) (m c : Nat) (news : List Value) (hl : news.length = m * size) (hnews : ∀ j u, news[j]? = some u → w.cell? (a.add j) = some u) (h1 : ∀ u ∈ news, u.oneCell' = true) (h63 : n + m ≤ maxLen) (hb : (n + m) * bytes ≤ 140737488355328) (hbase : base ≤ w.heap.size) :
    ∃ v' w', (Builtin.append_ #[t, t] ty #[v, .slice (some a) m c]).run P w = .ok v' w' ∧ w'.ownsRow base e size v' (n + m) (xs ++ news) ∧ w.grownBy w' v.ownBlock ∧ (v'.ownBlock = v.ownBlock ∨ ∃ k, v'.ownBlock = some k ∧ w.heap.size ≤ k) ∧
      ∃ a c, v' = .slice a (n + m) c := by
  obtain ⟨v', w', hr, h2, h3, h4⟩ := run_append_own (P := P) w base t ty e i z size bytes ht hi hz hsize hby hzs hsz v n xs hown a m c news hl hnews h1 h63 hb hbase
  subst hsize
  subst hby
  have hsmall : n + m ≤ 9223372036854775807 := by simp only [maxLen] at h63; omega
  have hsh : ∃ a c, v' = .slice a (n + m) c := by
    rcases h2.2 with ⟨rfl, e⟩ | ⟨g, cap, cur, rfl, _⟩
    · exact ⟨none, 0, by rw [e]⟩
    · exact ⟨_, _, rfl⟩
  refine ⟨v', w', hr, h2, h3, ?_, hsh⟩
  rcases hown.2 with ⟨rfl, rfl⟩ | ⟨g, cap, cur, rfl, hbg, hg, hnc, hcm, hcs, htake⟩
  · by_cases hm : m = 0
    · exact .inl (by rw [h4.2 ⟨rfl, hm⟩])
    · have hr' := run_append_nil (P := P) w t ty e i z ht hi hz a m c news hl hnews (by omega) (by omega) (by have hb := hb; simp only [Nat.zero_add] at hb; omega)
      rw [hr'] at hr
      injection hr with e1 e2
      subst e1
      exact .inr ⟨w.heap.size, rfl, Nat.le_refl _⟩
  · by_cases hroom : n + m ≤ cap
    · have hfit : n * i.size + news.length ≤ cur.size := by rw [hl, hcs, ← Nat.add_mul]; exact Nat.mul_le_mul_right _ hroom
      have hr' := run_append_room (P := P) w t ty e i ht hi g n cap cur hg a m c news hl hnews h1 hroom hfit
      rw [hr'] at hr
      injection hr with e1 e2
      subst e1
      exact .inl rfl
    · have holds : ∀ j u, xs[j]? = some u → w.cell? ((⟨g, 0, none⟩ : Addr).add j) = some u := hown.cells (g := g) rfl
      have hr' := run_append_grow (P := P) w t ty e i z ht hi hz ⟨g, 0, none⟩ n cap xs hown.1 holds a m c news hl hnews (by omega) (by omega) (growslice_fits (by omega) hb)
      rw [hr'] at hr
      injection hr with e1 e2
      subst e1
      exact .inr ⟨w.heap.size, rfl, Nat.le_refl _⟩

theorem wpList_append_freshG {P : Program} (w : World) {ops : Array Oper} {rest : List Oper} {o : Oper} {a : Act} {Q : Exit → Act → World → Prop} (hgd : o.guard = none) (sl x : Operand) (t : TypeId)
    (ho : o.op = .call { callee := .builtin .append, args := #[sl, x], argTypes := #[t, t] })
    (base : Nat) (e : TypeId) (i : TypeInfo) (z : Value) (size bytes : Nat) (ht : P.underlying t = some (.slice e)) (hi : P.info? e = some i) (hz : i.zero = some z)
    (hsize : i.size = size) (hby : i.bytes = bytes) (hzs : z.cells.size = size) (hsz : 0 < size)
    (v : Value) (n : Nat) (xs : List Value) (hs : a.eval sl = v) (hown : w.ownsRow base e size v n xs)
    (ad : Addr) (m c : Nat) (news : List Value) (hx : a.eval x = .slice (some ad) m c) (hl : news.length = m * size) (hnews : ∀ j u, news[j]? = some u → w.cell? (ad.add j) = some u) (h1 : ∀ u ∈ news, u.oneCell' = true)
    (h63 : n + m ≤ maxLen) (hbytes : (n + m) * bytes ≤ 140737488355328) (hbase : base ≤ w.heap.size)
    (h : ∀ v' w', Hid (w'.ownsRow base e size v' (n + m) (xs ++ news)) → Hid (w.grownBy w' v.ownBlock) → Hid (v'.ownBlock = v.ownBlock ∨ ∃ k, v'.ownBlock = some k ∧ w.heap.size ≤ k) → Hid (∃ a c, v' = .slice a (n + m) c) → wpList P ops Q rest (a.put o.dst v') w') : wpList P ops Q (o :: rest) a w := by
  refine wpList_plain hgd fun K hK => ?_
  obtain ⟨v', w', hr, h2, h3, h4, h5⟩ := append_freshG (P := P) w base t o.type e i z size bytes ht hi hz hsize hby hzs hsz v n xs hown ad m c news hl hnews h1 h63 hbytes hbase
  unfold Oper.wp execOp
  simp only [ho, resolve, invoke, builtin, Sem.run_bind, Sem.run_pure, Result.andThen_ok, List.map_toArray, List.map_cons, List.map_nil, hs, hx, hr]
  exact hK _ _ (h v' w' h2 h3 h4 h5)

end Go.Proofs.YtnangkijokficaaDoor
namespace Go.Proofs.YtnangkijokficaaDoor
open Go.RowKit

def Tr (w : World) : Nd → Nat → Nat → Value → Prop
  | .nil, lo, hi, v => ∃ a cap, v = .slice a 0 cap ∧ (0 ≤ cap ∧ cap ≤ 9223372036854775807)
  | .mk _ _ _ len kids, lo, hi, v => ∃ a cap, v = .slice a len cap ∧ (len ≤ cap ∧ cap ≤ 9223372036854775807) ∧ (len = 0 ∨ ∃ (g : Nat) (s e : Nat → Nat), a = some ⟨g, 0, none⟩ ∧ lo ≤ g ∧ g < hi ∧ (∀ o, w.frozen? ⟨g, o, none⟩ = false) ∧
      (∀ i, i < len → lo ≤ s i ∧ s i ≤ e i ∧ e i ≤ hi ∧ (g < s i ∨ e i ≤ g)) ∧ (∀ i j, i < j → j < len → e i ≤ s j) ∧ ∀ i, i < len →
      ∃ u, w.cell? ⟨g, i * 4, none⟩ = some (.int .i64 (kids i).kind) ∧ w.cell? ⟨g, i * 4 + 1, none⟩ = some (.int .i64 (kids i).num) ∧
        w.cell? ⟨g, i * 4 + 2, none⟩ = some (.string (kids i).name) ∧ w.cell? ⟨g, i * 4 + 3, none⟩ = some u ∧ Tr w (kids i) (s i) (e i) u)
theorem tr_eq {w : World} {T : Nd} {lo hi : Nat} {v : Value} : Tr w T lo hi v ↔ ∃ a cap, v = .slice a T.len cap ∧ (T.len ≤ cap ∧ cap ≤ 9223372036854775807) ∧ (T.len = 0 ∨ ∃ (g : Nat) (s e : Nat → Nat), a = some ⟨g, 0, none⟩ ∧ lo ≤ g ∧ g < hi ∧ (∀ o, w.frozen? ⟨g, o, none⟩ = false) ∧
      (∀ i, i < T.len → lo ≤ s i ∧ s i ≤ e i ∧ e i ≤ hi ∧ (g < s i ∨ e i ≤ g)) ∧ (∀ i j, i < j → j < T.len → e i ≤ s j) ∧ ∀ i, i < T.len →
      ∃ u, w.cell? ⟨g, i * 4, none⟩ = some (.int .i64 (T.kids i).kind) ∧ w.cell? ⟨g, i * 4 + 1, none⟩ = some (.int .i64 (T.kids i).num) ∧
        w.cell? ⟨g, i * 4 + 2, none⟩ = some (.string (T.kids i).name) ∧ w.cell? ⟨g, i * 4 + 3, none⟩ = some u ∧ Tr w (T.kids i) (s i) (e i) u) := by
  cases T with
  | nil => exact ⟨fun ⟨a, cap, h, hc⟩ => ⟨a, cap, h, hc, .inl rfl⟩, fun ⟨a, cap, h, hc, _⟩ => ⟨a, cap, h, hc⟩⟩
  | mk => exact Iff.rfl
theorem tr_row {w : World} : ∀ {T : Nd} {lo hi : Nat} {v : Value}, Tr w T lo hi v → Row lo hi w T v := by
  intro T
  induction T with
  | nil => exact fun h => h
  | mk k n s len kids ih =>
    rintro lo hi v ⟨a, cap, rfl, hcap, h⟩
    refine ⟨a, cap, rfl, hcap, ?_⟩
    rcases h with h | ⟨g, s, e, rfl, h1, h2, _, h4, _, h6⟩
    · exact .inl h
    · refine .inr ⟨g, 0, rfl, h1, h2, fun i hi => ?_⟩
      obtain ⟨u, e0, e1, e2, e3, hr⟩ := h6 i hi
      obtain ⟨s1, s2, s3, _⟩ := h4 i hi
      rw [Nat.zero_add]
      exact ⟨u, e0, e1, e2, e3, row_wide (ih i hr) s1 s3⟩
theorem tr_keep {w w' : World} : ∀ {T : Nd} {lo hi : Nat} {v : Value}, (∀ k, lo ≤ k → k < hi → w'.heap[k]? = w.heap[k]?) → Tr w T lo hi v → Tr w' T lo hi v := by
  intro T
  induction T with
  | nil => exact fun _ h => h
  | mk k n s len kids ih =>
    rintro lo hi v hc ⟨a, cap, rfl, hcap, h⟩
    refine ⟨a, cap, rfl, hcap, ?_⟩
    rcases h with h | ⟨g, s, e, rfl, h1, h2, h3, h4, h5, h6⟩
    · exact .inl h
    · have hg : ∀ o, w'.cell? ⟨g, o, none⟩ = w.cell? ⟨g, o, none⟩ := fun o => World.cell?_of_block (a := ⟨g, o, none⟩) (hc g h1 h2)
      have hf : ∀ o, w'.frozen? ⟨g, o, none⟩ = w.frozen? ⟨g, o, none⟩ := fun o => by unfold World.frozen?; rw [show w'.heap[g]? = w.heap[g]? from hc g h1 h2]
      refine .inr ⟨g, s, e, rfl, h1, h2, fun o => (hf o).trans (h3 o), h4, h5, fun i hi => ?_⟩
      obtain ⟨u, e0, e1, e2, e3, hr⟩ := h6 i hi
      obtain ⟨s1, s2, s3, _⟩ := h4 i hi
      exact ⟨u, (hg _).trans e0, (hg _).trans e1, (hg _).trans e2, (hg _).trans e3, ih i (fun k k1 k2 => hc k (by omega) (by omega)) hr⟩
theorem tr_below {w w' : World} {T : Nd} {lo hi B : Nat} {v : Value} (h : Tr w T lo hi v) (hb : Below B w w') (hB : hi ≤ B) : Tr w' T lo hi v := tr_keep (fun k _ h2 => hb.block k (by omega)) h
theorem tr_shape {w : World} {T : Nd} {lo hi : Nat} {v : Value} (h : Tr w T lo hi v) : ∃ a cap, v = .slice a T.len cap := by
  obtain ⟨a, cap, h, _⟩ := tr_eq.1 h; exact ⟨a, cap, h⟩
theorem tr_none (w : World) (lo hi : Nat) : Tr w .nil lo hi (.slice none 0 0) := ⟨none, 0, rfl, by omega, by omega⟩

def flatK (T : Nd) (us : Nat → Value) : Nat → List Value
  | 0 => []
  | j + 1 => flatK T us j ++ [.int .i64 (T.kids j).kind, .int .i64 (T.kids j).num, .string (T.kids j).name, us j]
theorem flatK_len (T : Nd) (us : Nat → Value) : ∀ j, (flatK T us j).length = j * 4
  | 0 => rfl
  | j + 1 => by simp only [flatK, List.length_append, flatK_len T us j, List.length_cons, List.length_nil]; omega
theorem flatK_at (T : Nd) (us : Nat → Value) : ∀ {n i : Nat}, i < n → (flatK T us n)[i * 4]? = some (.int .i64 (T.kids i).kind) ∧ (flatK T us n)[i * 4 + 1]? = some (.int .i64 (T.kids i).num) ∧ (flatK T us n)[i * 4 + 2]? = some (.string (T.kids i).name) ∧ (flatK T us n)[i * 4 + 3]? = some (us i)
  | n + 1, i, h => by
    have hl := flatK_len T us n
    simp only [flatK]
    by_cases e : i < n
    · obtain ⟨h0, h1, h2, h3⟩ := flatK_at T us e
      rw [List.getElem?_append_left (by omega), List.getElem?_append_left (by omega), List.getElem?_append_left (by omega), List.getElem?_append_left (by omega)]
      exact ⟨h0, h1, h2, h3⟩
    · obtain rfl : i = n := by omega
      rw [List.getElem?_append_right (by omega), List.getElem?_append_right (by omega), List.getElem?_append_right (by omega), List.getElem?_append_right (by omega), hl]
      refine ⟨?_, ?_, ?_, ?_⟩
      · rw [show i * 4 - i * 4 = 0 by omega]; rfl
      · rw [show i * 4 + 1 - i * 4 = 1 by omega]; rfl
      · rw [show i * 4 + 2 - i * 4 = 2 by omega]; rfl
      · rw [show i * 4 + 3 - i * 4 = 3 by omega]; rfl
theorem flatK_congr (T : Nd) {us vs : Nat → Value} : ∀ {j : Nat}, (∀ i, i < j → us i = vs i) → flatK T us j = flatK T vs j
  | 0, _ => rfl
  | j + 1, h => by simp only [flatK]; rw [flatK_congr T (fun i hi => h i (by omega)), h j (by omega)]

structure CpI (T : Nd) (w : World) (j : Nat) (v : Value) (us : Nat → Value) (s e : Nat → Nat) (wr : World) : Prop where
  own : wr.ownsRow w.heap.size 30 4 v j (flatK T us j)
  kid : ∀ i, i < j → Tr wr (T.kids i) (s i) (e i) (us i) ∧ w.heap.size ≤ s i ∧ s i ≤ e i ∧ e i ≤ wr.heap.size
  apart : ∀ i, i < j → ∀ g, v.ownBlock = some g → g < s i ∨ e i ≤ g
  ord : ∀ i k, i < k → k < j → e i ≤ s k
  below : Below w.heap.size w wr
theorem CpI.start (T : Nd) {w wr : World} {v : Value} (hv : wr.ownsRow w.heap.size 30 4 v 0 []) (hb : Below w.heap.size w wr) : CpI T w 0 v (fun _ => undef) (fun _ => 0) (fun _ => 0) wr :=
  ⟨hv, fun i hi => absurd hi (Nat.not_lt_zero _), fun i hi => absurd hi (Nat.not_lt_zero _), fun i k _ hk => absurd hk (Nat.not_lt_zero _), hb⟩
theorem CpI.later {T : Nd} {w : World} {j : Nat} {v : Value} {us : Nat → Value} {s e : Nat → Nat} {wr wr' : World} (h : CpI T w j v us s e wr) (hb : Below wr.heap.size wr wr') : CpI T w j v us s e wr' :=
  ⟨own_calm h.own fun k hk => hb.block k (h.own.lt k hk).2, fun i hi => ⟨tr_below (h.kid i hi).1 hb (h.kid i hi).2.2.2, (h.kid i hi).2.1, (h.kid i hi).2.2.1, Nat.le_trans (h.kid i hi).2.2.2 hb.size⟩, h.apart, h.ord, h.below.trans (hb.mono h.below.size)⟩
theorem CpI.step {T : Nd} {w : World} {j : Nat} {v v' : Value} {us : Nat → Value} {s e : Nat → Nat} {wr w1 w2 w3 : World} {u : Value} (h : CpI T w j v us s e wr) (hb1 : Below wr.heap.size wr w1) (ht : Tr w1 (T.kids j) wr.heap.size w1.heap.size u) (hb2 : Below w1.heap.size w1 w2)
    (hown : w3.ownsRow w.heap.size 30 4 v' (j + 1) (flatK T us j ++ [.int .i64 (T.kids j).kind, .int .i64 (T.kids j).num, .string (T.kids j).name, u])) (hgrow : w2.grownBy w3 v.ownBlock) (hloc : v'.ownBlock = v.ownBlock ∨ ∃ k, v'.ownBlock = some k ∧ w2.heap.size ≤ k) :
    CpI T w (j + 1) v' (fun i => if i = j then u else us i) (fun i => if i = j then wr.heap.size else s i) (fun i => if i = j then w1.heap.size else e i) w3 := by
  have z1 := hb1.size
  have z2 := hb2.size
  have z3 := hgrow.size
  have hz := h.below.size
  have hlt : ∀ g, v.ownBlock = some g → g < wr.heap.size := fun g hg => (h.own.lt g hg).2
  have hge : ∀ g, v.ownBlock = some g → w.heap.size ≤ g := fun g hg => (h.own.lt g hg).1
  refine ⟨?_, fun i hi => ?_, fun i hi g hg => ?_, fun i k hik hk => ?_, ?_⟩
  · have : flatK T (fun i => if i = j then u else us i) (j + 1) = flatK T us j ++ [.int .i64 (T.kids j).kind, .int .i64 (T.kids j).num, .string (T.kids j).name, u] := by
      simp only [flatK, if_true]
      rw [flatK_congr T (vs := us) fun i hi => if_neg (by omega)]
    rw [this]; exact hown
  · by_cases hij : i = j
    · subst hij
      simp only [if_true]
      refine ⟨tr_keep (fun k k1 k2 => ?_) (tr_below ht hb2 (Nat.le_refl _)), by omega, by omega, by omega⟩
      exact hgrow.block k (by omega) (fun e => by have := hlt k e.symm; omega)
    · simp only [if_neg hij]
      obtain ⟨t1, t2, t3, t4⟩ := h.kid i (by omega)
      refine ⟨tr_keep (fun k k1 k2 => ?_) (tr_below (tr_below t1 hb1 t4) hb2 (by omega)), t2, t3, by omega⟩
      exact hgrow.block k (by omega) (fun e => by have := h.apart i (by omega) k e.symm; omega)
  · by_cases hij : i = j
    · subst hij
      simp only [if_true]
      rcases hloc with hl | ⟨k, hk, hkz⟩
      · have := hlt g (hl ▸ hg); omega
      · rw [hk] at hg; obtain rfl := Option.some.inj hg; omega
    · simp only [if_neg hij]
      obtain ⟨t1, t2, t3, t4⟩ := h.kid i (by omega)
      rcases hloc with hl | ⟨k, hk, hkz⟩
      · exact h.apart i (by omega) g (hl ▸ hg)
      · rw [hk] at hg; obtain rfl := Option.some.inj hg; omega
  · by_cases hkj : k = j
    · subst hkj
      simp only [if_true, if_neg (show ¬ i = k by omega)]
      exact (h.kid i (by omega)).2.2.2
    · simp only [if_neg hkj, if_neg (show ¬ i = j by omega)]
      exact h.ord i k hik (by omega)
  · exact (h.below.trans ((hb1.mono hz).trans (hb2.mono (by omega)))).grown hgrow (by omega) (fun k hk => hge k hk)
theorem CpI.done {T : Nd} {w : World} {v : Value} {us : Nat → Value} {s e : Nat → Nat} {wr : World} (h : CpI T w T.len v us s e wr) : Tr wr T w.heap.size wr.heap.size v := by
  have hown := h.own
  rcases h.own.2 with ⟨rfl, e0⟩ | ⟨g, cap, cur, rfl, h2, h3, h4, h5, h6⟩
  · exact tr_eq.2 ⟨none, 0, by rw [e0], by omega, .inl e0⟩
  · unfold maxLen at h5
    refine tr_eq.2 ⟨_, cap, rfl, ⟨h4, by omega⟩, .inr ⟨g, s, e, rfl, h2, (Array.getElem?_eq_some_iff.1 h3).1, fun o => frozen_of_row _ _ _ _ _ h3, fun i hi => ?_, h.ord, fun i hi => ?_⟩⟩
    · obtain ⟨t1, t2, t3, t4⟩ := h.kid i hi
      exact ⟨t2, t3, t4, h.apart i hi g rfl⟩
    · obtain ⟨f0, f1, f2, f3⟩ := flatK_at T us hi
      have hc := hown.cells (g := g) rfl
      have c0 := hc _ _ f0
      have c1 := hc _ _ f1
      have c2 := hc _ _ f2
      have c3 := hc _ _ f3
      rw [add_at] at c0 c1 c2 c3
      exact ⟨us i, c0, c1, c2, c3, (h.kid i hi).1⟩
end Go.Proofs.YtnangkijokficaaDoor
namespace Go.Proofs.YtnangkijokficaaDoor
open Go.RowKit

def Nd.nodes : Nd → List Nd
  | .nil => [.nil]
  | .mk k n s len kids => .mk k n s len kids :: (List.range len).flatMap fun i => (kids i).nodes
theorem nodes_eq (T : Nd) : T.nodes = T :: (List.range T.len).flatMap fun i => (T.kids i).nodes := by cases T <;> rfl
theorem pre_nodes (T : Nd) : ∀ d, (T.pre d).map Prod.fst = T.nodes := by
  induction T with
  | nil => intro d; rfl
  | mk k n s len kids ih =>
    intro d
    simp only [Nd.pre, Nd.nodes, List.map_cons, List.map_flatMap, ih]
theorem flat_len (f : Nat → List Nd) : ∀ n, ((List.range n).flatMap f).length = sumTo (fun i => (f i).length) n
  | 0 => rfl
  | n + 1 => by rw [List.range_succ, List.flatMap_append, List.length_append, flat_len f n]; simp [sumTo]
theorem nodes_len (T : Nd) : T.nodes.length = T.size := by rw [← pre_nodes T 0, List.length_map, pre_len]
theorem flat_at (f : Nat → List Nd) : ∀ {n i q : Nat}, i < n → sumTo (fun i => (f i).length) i ≤ q → q < sumTo (fun i => (f i).length) i + (f i).length → ((List.range n).flatMap f)[q]? = (f i)[q - sumTo (fun i => (f i).length) i]?
  | n + 1, i, q, hi, h1, h2 => by
    rw [List.range_succ, List.flatMap_append]
    have hl := flat_len f n
    by_cases e : i < n
    · have := sumTo_at (fun i => (f i).length) e
      rw [List.getElem?_append_left (by omega)]
      exact flat_at f e h1 h2
    · obtain rfl : i = n := by omega
      rw [List.getElem?_append_right (by omega), hl]
      simp
def atT (T : Nd) (q : Nat) : Nd := (T.nodes[q]?).getD .nil
theorem at_zero (T : Nd) : atT T 0 = T := by unfold atT; rw [nodes_eq]; rfl
theorem at_kid (T : Nd) {i q : Nat} (hi : i < T.len) (h1 : kidAt T 0 i ≤ q) (h2 : q < kidAt T 0 i + (T.kids i).size) : atT T q = atT (T.kids i) (q - kidAt T 0 i) := by
  unfold atT
  rw [nodes_eq]
  have hs : sumTo (fun i => (T.kids i).nodes.length) i = sumTo (fun j => (T.kids j).size) i := sumTo_congr fun j _ => nodes_len _
  have hk : kidAt T 0 i = 1 + sumTo (fun j => (T.kids j).size) i := by unfold kidAt; omega
  obtain ⟨r, rfl⟩ : ∃ r, q = r + 1 := ⟨q - 1, by omega⟩
  rw [List.getElem?_cons_succ, flat_at (fun i => (T.kids i).nodes) hi (by rw [hs]; omega) (by rw [hs, nodes_len]; omega), hs, hk]
  rw [show r + 1 - (1 + sumTo (fun j => (T.kids j).size) i) = r - sumTo (fun j => (T.kids j).size) i by omega]
theorem kidAt_add (T : Nd) (a i : Nat) : kidAt T a i = a + kidAt T 0 i := by unfold kidAt; omega
theorem nodes_sub (T : Nd) : ∀ X ∈ T.nodes, X.cost ≤ T.cost ∧ X.size ≤ T.size ∧ (T.Fine → X.Fine) := by
  induction T with
  | nil => intro X h; simp [Nd.nodes] at h; subst h; exact ⟨Nat.le_refl _, Nat.le_refl _, id⟩
  | mk k n s len kids ih =>
    intro X h
    rw [nodes_eq] at h
    rcases List.mem_cons.1 h with rfl | h
    · exact ⟨Nat.le_refl _, Nat.le_refl _, id⟩
    · obtain ⟨i, hi, hX⟩ := List.mem_flatMap.1 h
      have hil : i < len := List.mem_range.1 hi
      obtain ⟨h1, h2, h3⟩ := ih i X hX
      have c1 := Nd.cost_kid (.mk k n s len kids) (i := i) hil
      have c2 := size_kid (.mk k n s len kids) (i := i) hil
      exact ⟨Nat.le_trans h1 c1, Nat.le_trans h2 (Nat.le_of_lt c2), fun hf => h3 (Nd.fine_kid (T := .mk k n s len kids) hf hil)⟩
theorem at_sub (T : Nd) {q : Nat} (h : q < T.size) : (atT T q).cost ≤ T.cost ∧ (atT T q).size ≤ T.size ∧ (T.Fine → (atT T q).Fine) := by
  refine nodes_sub T _ ?_
  unfold atT
  rw [← nodes_len] at h
  rw [List.getElem?_eq_getElem h]
  exact List.getElem_mem h
end Go.Proofs.YtnangkijokficaaDoor
