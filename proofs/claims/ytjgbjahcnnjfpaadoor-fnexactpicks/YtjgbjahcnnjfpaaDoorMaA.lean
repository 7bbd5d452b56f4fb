/- Trees, as memory holds them: a node is four cells, its kids a row of nodes behind a slice. Kids beyond 'len' are nothing. -/
import Derived.Test.YtjgbjahcnnjfpaaDoorProg
import Derived.WalkKit
import Derived.Below
import Derived.Outline
import Derived.ProofKit
import Derived.OwnWalk
import Derived.Laws.Rows
import Derived.Laws.OwnMore
import Derived.OpenVars
import Derived.LaidLaws
import Derived.Lib.LaidTab
import Derived.ChangeArms
import Derived.DataReads
import Derived.Deep.Slices
set_option linter.unusedVariables false
namespace Go.Proofs.YtjgbjahcnnjfpaaDoor
open Go.RowKit Go.ChangeShapes Go.WideShapes

inductive Nd where
  | nil
  | mk (k n : Int) (s : ByteArray) (len : Nat) (kids : Nat → Nd)

def Nd.kind : Nd → Int | .nil => 0 | .mk k _ _ _ _ => k
def Nd.num : Nd → Int | .nil => 0 | .mk _ n _ _ _ => n
def Nd.name : Nd → ByteArray | .nil => ⟨#[]⟩ | .mk _ _ s _ _ => s
def Nd.len : Nd → Nat | .nil => 0 | .mk _ _ _ l _ => l
def Nd.kids : Nd → Nat → Nd | .nil => fun _ => .nil | .mk _ _ _ _ f => f

def sumTo (f : Nat → Nat) : Nat → Nat
  | 0 => 0
  | n + 1 => sumTo f n + f n
theorem sumTo_le (f : Nat → Nat) {a b : Nat} (h : a ≤ b) : sumTo f a ≤ sumTo f b := by
  induction h with
  | refl => exact Nat.le_refl _
  | step _ ih => exact Nat.le_trans ih (by simp [sumTo])
theorem sumTo_at (f : Nat → Nat) {a b : Nat} (h : a < b) : sumTo f a + f a ≤ sumTo f b := sumTo_le f (show a + 1 ≤ b from h)

def Nd.cost : Nd → Nat | .nil => 0 | .mk _ _ s len kids => s.size + (len + sumTo (fun i => (kids i).cost) len)
def Nd.size : Nd → Nat | .nil => 1 | .mk _ _ _ len kids => 1 + sumTo (fun i => (kids i).size) len
def Nd.Fine : Nd → Prop | .nil => True | .mk k n s len kids => (-9223372036854775808 ≤ k ∧ k ≤ 9223372036854775807) ∧ (-9223372036854775808 ≤ n ∧ n ≤ 9223372036854775807) ∧ s.size ≤ 9223372036854775807 ∧ len ≤ 9223372036854775807 ∧ ∀ i, i < len → (kids i).Fine

theorem Nd.cost_eq (T : Nd) : T.cost = T.name.size + (T.len + sumTo (fun i => (T.kids i).cost) T.len) := by cases T <;> rfl
theorem Nd.size_eq (T : Nd) : T.size = 1 + sumTo (fun i => (T.kids i).size) T.len := by cases T <;> rfl
theorem Nd.cost_kid (T : Nd) {i : Nat} (h : i < T.len) : (T.kids i).cost ≤ T.cost := by
  rw [T.cost_eq]; have := sumTo_at (fun i => (T.kids i).cost) h; omega
theorem sumTo_size {f g : Nat → Nat} {n : Nat} (h : ∀ i, i < n → f i ≤ 1 + g i) : sumTo f n ≤ n + sumTo g n := by
  induction n with
  | zero => simp [sumTo]
  | succ n ih => have := ih fun i hi => h i (by omega); have := h n (by omega); simp [sumTo]; omega
theorem Nd.size_cost (T : Nd) : T.size ≤ 1 + T.cost := by
  induction T with
  | nil => simp [Nd.size]
  | mk k n s len kids ih =>
    have := sumTo_size (f := fun i => (kids i).size) (g := fun i => (kids i).cost) (n := len) fun i _ => ih i
    simp only [Nd.size, Nd.cost]; omega
theorem Nd.fine_kid {T : Nd} (h : T.Fine) {i : Nat} (hi : i < T.len) : (T.kids i).Fine := by cases T; exact absurd hi (Nat.not_lt_zero _); exact h.2.2.2.2 i hi
theorem Nd.fine_len {T : Nd} (h : T.Fine) : T.len ≤ 9223372036854775807 := by cases T; exact Nat.zero_le _; exact h.2.2.2.1
theorem Nd.fine_name {T : Nd} (h : T.Fine) : T.name.size ≤ 9223372036854775807 := by cases T; exact Nat.zero_le _; exact h.2.2.1

def Row (lo hi : Nat) (w : World) : Nd → Value → Prop
  | .nil, v => ∃ a cap, v = .slice a 0 cap ∧ (0 ≤ cap ∧ cap ≤ 9223372036854775807)
  | .mk _ _ _ len kids, v => ∃ a cap, v = .slice a len cap ∧ (len ≤ cap ∧ cap ≤ 9223372036854775807) ∧ (len = 0 ∨ ∃ g off, a = some ⟨g, off, none⟩ ∧ lo ≤ g ∧ g < hi ∧ ∀ i, i < len →
      ∃ u, w.cell? ⟨g, off + i * 4, none⟩ = some (.int .i64 (kids i).kind) ∧ w.cell? ⟨g, off + i * 4 + 1, none⟩ = some (.int .i64 (kids i).num) ∧
        w.cell? ⟨g, off + i * 4 + 2, none⟩ = some (.string (kids i).name) ∧ w.cell? ⟨g, off + i * 4 + 3, none⟩ = some u ∧ Row lo hi w (kids i) u)

theorem row_eq {lo hi : Nat} {w : World} {T : Nd} {v : Value} : Row lo hi w T v ↔ ∃ a cap, v = .slice a T.len cap ∧ (T.len ≤ cap ∧ cap ≤ 9223372036854775807) ∧ (T.len = 0 ∨ ∃ g off, a = some ⟨g, off, none⟩ ∧ lo ≤ g ∧ g < hi ∧ ∀ i, i < T.len →
      ∃ u, w.cell? ⟨g, off + i * 4, none⟩ = some (.int .i64 (T.kids i).kind) ∧ w.cell? ⟨g, off + i * 4 + 1, none⟩ = some (.int .i64 (T.kids i).num) ∧
        w.cell? ⟨g, off + i * 4 + 2, none⟩ = some (.string (T.kids i).name) ∧ w.cell? ⟨g, off + i * 4 + 3, none⟩ = some u ∧ Row lo hi w (T.kids i) u) := by
  cases T with
  | nil => exact ⟨fun ⟨a, cap, h, hc⟩ => ⟨a, cap, h, hc, .inl rfl⟩, fun ⟨a, cap, h, hc, _⟩ => ⟨a, cap, h, hc⟩⟩
  | mk => exact Iff.rfl

theorem row_keep {lo hi lo' hi' : Nat} {w w' : World} (hlo : lo' ≤ lo) (hhi : hi ≤ hi') (hc : ∀ g o, lo ≤ g → g < hi → w'.cell? ⟨g, o, none⟩ = w.cell? ⟨g, o, none⟩) :
    ∀ {T : Nd} {v : Value}, Row lo hi w T v → Row lo' hi' w' T v := by
  intro T
  induction T with
  | nil => exact fun h => h
  | mk k n s len kids ih =>
    rintro v ⟨a, cap, rfl, hcap, h⟩
    refine ⟨a, cap, rfl, hcap, ?_⟩
    rcases h with h | ⟨g, off, rfl, h1, h2, h3⟩
    · exact .inl h
    · refine .inr ⟨g, off, rfl, by omega, by omega, fun i hi => ?_⟩
      obtain ⟨u, e0, e1, e2, e3, hr⟩ := h3 i hi
      exact ⟨u, by rw [hc _ _ h1 h2]; exact e0, by rw [hc _ _ h1 h2]; exact e1, by rw [hc _ _ h1 h2]; exact e2, by rw [hc _ _ h1 h2]; exact e3, ih i hr⟩
theorem row_below {lo hi : Nat} {w w' : World} {B : Nat} (hb : Below B w w') (hB : hi ≤ B) {T : Nd} {v : Value} (h : Row lo hi w T v) : Row lo hi w' T v :=
  row_keep (Nat.le_refl _) (Nat.le_refl _) (fun g o _ h2 => hb.cell (p := ⟨g, o, none⟩) (by show g < B; omega)) h
theorem row_wide {lo hi lo' hi' : Nat} {w : World} {T : Nd} {v : Value} (h : Row lo hi w T v) (hlo : lo' ≤ lo) (hhi : hi ≤ hi') : Row lo' hi' w T v := row_keep hlo hhi (fun _ _ _ _ => rfl) h

theorem row_drew {lo hi : Nat} {w : World} {T : Nd} {v : Value} (h : Row lo hi w T v) : Row lo hi w.drew T v := row_keep (w := w) (w' := w.drew) (Nat.le_refl _) (Nat.le_refl _) (fun _ _ _ _ => rfl) h
theorem hid_mk {p : Prop} (h : p) : Hid p := h
theorem ret_in {k : IntKind} {a b : Int} (h : a = b) : Ending.returned (.int k a) = .returned (.int k b) := by rw [h]
def Nd.val (T : Nd) (v : Value) : Value := .agg #[.int .i64 T.kind, .int .i64 T.num, .string T.name, v]
end Go.Proofs.YtjgbjahcnnjfpaaDoor
namespace Go.Proofs.YtjgbjahcnnjfpaaDoor
open Go.RowKit

theorem row_shape {lo hi : Nat} {w : World} {T : Nd} {v : Value} (h : Row lo hi w T v) : ∃ a cap, v = .slice a T.len cap := by
  obtain ⟨a, cap, h, _⟩ := row_eq.1 h; exact ⟨a, cap, h⟩
end Go.Proofs.YtjgbjahcnnjfpaaDoor
namespace Go.Proofs.YtjgbjahcnnjfpaaDoor
open Go.RowKit
theorem add_at (g j : Nat) : (⟨g, 0, none⟩ : Addr).add j = ⟨g, j, none⟩ := by
  unfold Addr.add
  split
  · rename_i h; subst h; rfl
  · simp
theorem own_calm {w w' : World} {base : Nat} {e : TypeId} {size n : Nat} {v : Value} {xs : List Value} (h : w.ownsRow base e size v n xs) (hb : ∀ k, v.ownBlock = some k → w'.heap[k]? = w.heap[k]?) : w'.ownsRow base e size v n xs := by
  refine ⟨h.1, ?_⟩
  rcases h.2 with h | ⟨g, cap, cur, rfl, h2, h3, h4⟩
  · exact .inl h
  · exact .inr ⟨g, cap, cur, rfl, h2, (hb g rfl).trans h3, h4⟩
theorem bcellO {W w1 : World} (hb : Below W.heap.size W w1) : (∀ b o, b < W.heap.size → w1.cell? ⟨b, o, none⟩ = W.cell? ⟨b, o, none⟩) ∧ (∀ b o, b < W.heap.size → w1.frozen? ⟨b, o, none⟩ = W.frozen? ⟨b, o, none⟩) :=
  ⟨fun b o h => hb.cell (p := ⟨b, o, none⟩) h, fun b o h => hb.frozen (p := ⟨b, o, none⟩) h⟩
end Go.Proofs.YtjgbjahcnnjfpaaDoor
namespace Go.Proofs.YtjgbjahcnnjfpaaDoor
open Go.RowKit

def left' (c left : Nat) : Int := if c ≤ left then ((left - c : Nat) : Int) else -1
theorem left_neg {c l : Nat} (h : left' c l < 0) : l < c := by unfold left' at h; split at h <;> omega
theorem left_pos {c l : Nat} (h : 0 ≤ left' c l) : c ≤ l ∧ left' c l = ((l - c : Nat) : Int) := by
  unfold left' at h ⊢
  split at h
  · rename_i hc; exact ⟨hc, by rw [if_pos hc]⟩
  · omega
end Go.Proofs.YtjgbjahcnnjfpaaDoor
namespace Go.Proofs.YtjgbjahcnnjfpaaDoor
open Go.RowKit

def Nd.pre : Nd → Nat → List (Nd × Nat)
  | .nil, d => [(.nil, d)]
  | .mk k n s len kids, d => (.mk k n s len kids, d) :: (List.range len).flatMap fun i => (kids i).pre (d + 1)
def preL (D : Nd) (d : Nat) : List (Nd × Nat) := (List.range D.len).flatMap fun i => (D.kids i).pre d
def tailN (D : Nd) : Nd := .mk 0 0 ⟨#[]⟩ (D.len - 1) (fun i => D.kids (i + 1))
def oneN (T : Nd) : Nd := .mk 0 0 ⟨#[]⟩ 1 (fun _ => T)

theorem pre_eq (T : Nd) (d : Nat) : T.pre d = (T, d) :: preL T (d + 1) := by cases T <;> rfl
theorem preL_cons {D : Nd} (h : 0 < D.len) (d : Nat) : preL D d = (D.kids 0).pre d ++ preL (tailN D) d := by
  unfold preL
  obtain ⟨m, hm⟩ : ∃ m, D.len = m + 1 := ⟨D.len - 1, by omega⟩
  have : (tailN D).len = m := by show D.len - 1 = m; omega
  rw [this, hm, List.range_succ_eq_map, List.flatMap_cons, List.flatMap_map]
  rfl
theorem preL_none {D : Nd} (h : D.len = 0) (d : Nat) : preL D d = [] := by unfold preL; rw [h]; rfl
theorem preL_one (T : Nd) (d : Nat) : preL (oneN T) d = T.pre d := by
  show (List.range 1).flatMap _ = _
  simp [List.range_succ, oneN, Nd.kids]
theorem flatMap_len (f : Nat → List (Nd × Nat)) : ∀ n, ((List.range n).flatMap f).length = sumTo (fun i => (f i).length) n
  | 0 => rfl
  | n + 1 => by rw [List.range_succ, List.flatMap_append, List.length_append, flatMap_len f n]; simp [sumTo]
theorem sumTo_congr {f g : Nat → Nat} : ∀ {n : Nat}, (∀ i, i < n → f i = g i) → sumTo f n = sumTo g n
  | 0, _ => rfl
  | n + 1, h => by simp only [sumTo]; rw [sumTo_congr fun i hi => h i (by omega), h n (by omega)]
theorem pre_len (T : Nd) : ∀ d, (T.pre d).length = T.size := by
  induction T with
  | nil => intro d; rfl
  | mk k n s len kids ih =>
    intro d
    simp only [Nd.pre, List.length_cons, flatMap_len, Nd.size]
    rw [sumTo_congr fun i _ => ih i (d + 1)]; omega
theorem size_pos (T : Nd) : 0 < T.size := by rw [T.size_eq]; omega
theorem size_kid (T : Nd) {i : Nat} (h : i < T.len) : (T.kids i).size < T.size := by
  rw [T.size_eq]; have := sumTo_at (fun i => (T.kids i).size) h; omega
theorem pre_deep (T : Nd) : ∀ d p, p ∈ T.pre d → p.2 < d + T.size := by
  induction T with
  | nil => intro d p hp; simp [Nd.pre] at hp; subst hp; simp [Nd.size]
  | mk k n s len kids ih =>
    intro d p hp
    rw [pre_eq] at hp
    rcases List.mem_cons.1 hp with rfl | hp
    · have := size_pos (.mk k n s len kids); simp; omega
    · obtain ⟨i, hi, hp⟩ := List.mem_flatMap.1 hp
      have h1 : i < len := List.mem_range.1 hi
      have h2 := ih i (d + 1) p hp
      have h3 := size_kid (.mk k n s len kids) (i := i) h1
      have h4 : ((Nd.mk k n s len kids).kids i).size = (kids i).size := rfl
      omega

structure Ent where
  D : Nd
  d : Nat
  v : Value
def remS (S : List Ent) : List (Nd × Nat) := S.flatMap fun e => preL e.D e.d
def flatS (S : List Ent) : List Value := S.reverse.flatMap fun e => [e.v, .int .i64 (e.d : Int)]
theorem flatS_cons (e : Ent) (S : List Ent) : flatS (e :: S) = flatS S ++ [e.v, .int .i64 (e.d : Int)] := by simp [flatS]
theorem flatS_len (S : List Ent) : (flatS S).length = S.length * 2 := by
  induction S with
  | nil => rfl
  | cons e S ih => rw [flatS_cons]; simp [ih]; omega
theorem remS_cons (e : Ent) (S : List Ent) : remS (e :: S) = preL e.D e.d ++ remS S := by simp [remS]
theorem rem_ge (S : List Ent) (h : ∀ e ∈ S, 0 < e.D.len) : S.length ≤ (remS S).length := by
  induction S with
  | nil => simp
  | cons e S ih =>
    have := ih fun x hx => h x (List.mem_cons_of_mem _ hx)
    have h0 := h e (List.mem_cons_self ..)
    rw [remS_cons, preL_cons h0, pre_eq]
    simp; omega
def pushK (e : Ent) (K : Nd) (u : Value) (S : List Ent) : List Ent := if 0 < K.len then ⟨K, e.d + 1, u⟩ :: S else S
def pushT (e : Ent) (t : Value) (S : List Ent) : List Ent := if 1 < e.D.len then ⟨tailN e.D, e.d, t⟩ :: S else S
theorem rem_step (e : Ent) (S : List Ent) (u t : Value) (h : 0 < e.D.len) : remS (e :: S) = (e.D.kids 0, e.d) :: remS (pushK e (e.D.kids 0) u (pushT e t S)) := by
  have hT : remS (pushT e t S) = preL (tailN e.D) e.d ++ remS S := by
    unfold pushT
    split
    · rw [remS_cons]
    · rw [preL_none (by show e.D.len - 1 = 0; omega)]; rfl
  have hK : remS (pushK e (e.D.kids 0) u (pushT e t S)) = preL (e.D.kids 0) (e.d + 1) ++ remS (pushT e t S) := by
    unfold pushK
    split
    · rw [remS_cons]
    · rw [preL_none (by omega)]; rfl
  rw [remS_cons, preL_cons h, pre_eq, hK, hT]
  simp
end Go.Proofs.YtjgbjahcnnjfpaaDoor
namespace Go.Proofs.YtjgbjahcnnjfpaaDoor
open Go.RowKit

def Four (W : World) (b : Nat) (x0 x1 x2 x3 : Value) : Prop := W.cell? ⟨b, 0, none⟩ = some x0 ∧ W.cell? ⟨b, 1, none⟩ = some x1 ∧ W.cell? ⟨b, 2, none⟩ = some x2 ∧ W.cell? ⟨b, 3, none⟩ = some x3
theorem Four.keep {B b : Nat} {A C : World} {x0 x1 x2 x3 : Value} (h : Four A b x0 x1 x2 x3) (hb : Below B A C) (hB : b < B) : Four C b x0 x1 x2 x3 := by
  obtain ⟨h0, h1, h2, h3⟩ := h
  exact ⟨(hb.cell (p := ⟨b, 0, none⟩) hB).trans h0, (hb.cell (p := ⟨b, 1, none⟩) hB).trans h1, (hb.cell (p := ⟨b, 2, none⟩) hB).trans h2, (hb.cell (p := ⟨b, 3, none⟩) hB).trans h3⟩
theorem Four.new (W : World) (x0 x1 x2 x3 : Value) (t : TypeId) : Four (W.alloc (.cells #[x0, x1, x2, x3] t)) W.heap.size x0 x1 x2 x3 := by
  unfold Four; simp [go_sem]

end Go.Proofs.YtjgbjahcnnjfpaaDoor
namespace Go.Proofs.YtjgbjahcnnjfpaaDoor
open Go.RowKit Go.ChangeShapes Go.WideShapes Go.ChangeAt

theorem bytes_ext {a b : ByteArray} (h : a.data.toList = b.data.toList) : a = b := by
  cases a; cases b; simp only at h; congr; exact Array.ext' h

def strData {H : Type} (ss : List ByteArray) : DataW H := .agg (ss.map fun s => .lit (.string s.data.toList))

theorem cells_of_strs {H : Type} {enc : TypeId × Value → H} {P : Program} {w : World} {base : Nat} {sp : Nat → Bool} {held : Bool} {fuel : Nat} {t e : TypeId} {n : Nat} {cs : List Value} {zs : List ByteArray} {p : List MemPlace}
    (ht : P.underlying t = some (.array n e)) (he : P.underlying e = some .string) (hce : P.cellsOf e = 1) (hct : P.cellsOf t = n)
    (h : DataW.trod enc P w base sp held fuel t cs = some (strData zs, p)) : cs = zs.map fun z => Value.string z := by
  cases fuel with
  | zero => simp [DataW.trod] at h
  | succ fuel =>
    simp only [DataW.trod, ht, hce, hct, Nat.mul_one] at h
    split at h
    · rename_i hl
      obtain ⟨xs, hm, hx⟩ := Option.map_eq_some_iff.1 h
      have hxs : xs.map (·.1) = zs.map fun z => (DataW.lit (.string z.data.toList) : DataW H) := by
        have := congrArg Prod.fst hx
        simpa [strData] using this
      have hxl : xs.length = n := by simpa using Lib.mapM_length hm
      have hzl : zs.length = n := by
        have := congrArg List.length hxs
        simp at this
        omega
      apply List.ext_getElem?
      intro i
      by_cases hi : i < n
      · obtain ⟨b, hb, hf⟩ := Lib.mapM_at hm i i (by simp [hi])
        obtain ⟨z, hc, rfl, _⟩ := DataW.trod_string he hf
        have h1 : cs[i]? = some (.string z) := by
          have := congrArg (·[0]?) hc
          simpa [List.getElem?_take, List.getElem?_drop] using this
        have h2 : (xs.map (·.1))[i]? = some (DataW.lit (.string z.data.toList) : DataW H) := by simp [hb]
        rw [hxs] at h2
        simp only [List.getElem?_map, Option.map_eq_some_iff, DataW.lit.injEq, Lit.string.injEq] at h2
        obtain ⟨z', hz', e'⟩ := h2
        rw [h1, List.getElem?_map, hz', ← bytes_ext e']; rfl
      · rw [List.getElem?_eq_none (by omega), List.getElem?_eq_none (by simp; omega)]
    · cases h

theorem strs_of_read {H : Type} {enc : TypeId × Value → H} {P : Program} {W : World} {name : String} {zs : List ByteArray} {g : Nat} {t e : TypeId} {n : Nat} {cs : Array Value} {fuel : Nat} {p : List MemPlace} {sp : Nat → Bool} {held : Bool}
    (hg : P.globalNamed name = some g) (ht : P.underlying t = some (.array n e)) (he : P.underlying e = some .string) (hce : P.cellsOf e = 1) (hct : P.cellsOf t = n)
    (hv : W.var? P name = some cs) (hd : DataW.trod enc P W 0 sp held fuel t cs.toList = some (strData zs, p)) (i : Nat) (hi : i < zs.length) :
    W.cell? ⟨g, i, none⟩ = some (.string (zs.getD i ⟨#[]⟩)) := by
  have hc := cells_of_strs ht he hce hct hd
  have := World.var?_cell hg hv i
  rw [this]
  have e2 : cs[i]? = cs.toList[i]? := by simp
  rw [e2, hc]
  simp [List.getD, hi]

theorem var_lt {P : Program} {W : World} {name : String} {g : Nat} {cs : Array Value} (hg : P.globalNamed name = some g) (hv : W.var? P name = some cs) : g < W.heap.size := by
  unfold World.var? at hv
  rw [hg] at hv
  simp only [Option.bind_some] at hv
  cases hh : W.heap[g]? with
  | none => rw [hh] at hv; cases hv
  | some o => exact (Array.getElem?_eq_some_iff.1 hh).1

theorem below_trodAll {H : Type} {enc : TypeId × Value → H} {P : Program} (hl : laidOutB P = true) {W W' : World} (hb : Below W.heap.size W W') :
    ∀ {ts : List TypeId} {vs : List Value} {ds : List (DataW H)} {ps : List MemPlace}, (ts.all fun t => P.readableRec t && decide (t < P.types.size)) = true → (∀ x ∈ ps, x.block < W.heap.size) →
      DataW.TrodAll enc P W 0 (fun _ => true) true ts vs ds ps → DataW.TrodAll enc P W' 0 (fun b => decide (b < W.heap.size)) true ts vs ds ps
  | [], [], [], _, _, _, h => h
  | t :: ts, v :: vs, d :: ds, ps, hr, hlt, h => by
    obtain ⟨p, q, h1, h2, e⟩ := h
    simp only [List.all_cons, Bool.and_eq_true, decide_eq_true_eq] at hr
    exact ⟨p, q, Below.trod hl hr.1.1 hr.1.2 h1 hb (fun x hx => hlt x (by rw [e]; simp [hx])), below_trodAll hl hb (by simpa using hr.2) (fun x hx => hlt x (by rw [e]; simp [hx])) h2, e⟩
  | [], [], _ :: _, _, _, _, h => h.elim
  | [], _ :: _, _, _, _, _, h => h.elim
  | _ :: _, [], _, _, _, _, h => h.elim
  | _ :: _, _ :: _, [], _, _, _, h => h.elim

theorem law_post {H : Type} {enc : TypeId × Value → H} {P : Program} {f : Func} {s : ChangeSpec} {W W' : World} {args : Array Value} {ds gs : List (DataW H)} {before : List MemPlace} {tb : TypeId} {apart : Bool}
    (hl : laidOutB P = true) (htb : P.underlying tb = some .bool) (hres : f.resultTypes = #[tb])
    (hr : (f.params.toList.all fun t => P.readableRec t && decide (t < P.types.size)) = true) (hv : varsRowed P s.vars = true)
    (hfn : s.fn H (ds ++ gs) = { results := [.lit (.bool true)], args := ds, vars := gs })
    (hW : DataW.Whole enc P f.params.toList s.vars apart W args.toList ds gs before) (hb : Below W.heap.size W W') :
    s.post enc P f apart true false false W args (.bool true) W' := by
  have hW' := hW
  have hlt := hW.lt
  obtain ⟨p, q, hA, hV, rfl, hfz, hnd⟩ := hW
  refine ⟨ds, gs, p ++ q, [], p, q, hW', ?_, ?_, ?_, hb.frame _, fun h => by cases h⟩
  · rw [hfn, hres]
    exact trodAll_mk1 (shut_bool htb _)
  · rw [hfn]
    exact below_trodAll hl hb hr (fun x hx => hlt x (by simp [hx])) hA
  · rw [hfn]
    exact Below.trodVars hl hb hv hV
end Go.Proofs.YtjgbjahcnnjfpaaDoor
namespace Go.Proofs.YtjgbjahcnnjfpaaDoor
open Go.RowKit Go.ChangeShapes Go.WideShapes

theorem add_none {a : Addr} {g off : Nat} (h : a = ⟨g, off, none⟩) (n : Nat) : a.add n = ⟨g, off + n, none⟩ := by
  subst h; unfold Addr.add; split
  · rename_i h; subst h; rfl
  · rfl
theorem spot_none {w : World} {a : Addr} {v : Value} (h : w.cell? a = some v) : a = ⟨a.block, a.off, none⟩ := by
  cases a with
  | mk g off spot =>
    cases spot with
    | none => rfl
    | some k =>
      unfold World.cell? at h
      split at h
      · simp at h
      · cases h
theorem cell_lt {w : World} {a : Addr} {v : Value} (h : w.cell? a = some v) : a.block < w.heap.size := by
  unfold World.cell? at h
  split at h
  · rename_i c _ _ hh; exact (Array.getElem?_eq_some_iff.1 hh).1
  · cases h

theorem open_nd {H : Type} {enc : TypeId × Value → H} {P : Program} {W : World} {sp : Nat → Bool} {held : Bool} {t : TypeId} {f0 f1 f2 f3 : Field} (ht : P.underlying t = some (.struct #[f0, f1, f2, f3]))
    (o0 : f0.offset = 0) (o1 : f1.offset = 1) (o2 : f2.offset = 2) (o3 : f3.offset = 3)
    (i0 : P.underlying f0.type = some (.int .i64)) (i1 : P.underlying f1.type = some (.int .i64)) (i2 : P.underlying f2.type = some .string) (i3 : P.underlying f3.type = some (.slice t))
    (c0 : P.cellsOf f0.type = 1) (c1 : P.cellsOf f1.type = 1) (c2 : P.cellsOf f2.type = 1) (c3 : P.cellsOf f3.type = 1) (ct : P.cellsOf t = 4) :
    ∀ (fuel : Nat) (cs : List Value) (x : DataW H × List MemPlace), DataW.trod enc P W 0 sp held fuel t cs = some x →
      ∃ (T : Nd) (v : Value), cs = [.int .i64 T.kind, .int .i64 T.num, .string T.name, v] ∧ T.Fine ∧ Row 0 W.heap.size W T v := by
  intro fuel
  induction fuel using Nat.strongRecOn with
  | ind fuel ih =>
  intro cs x h
  obtain ⟨xs, n, rfl, _, hl, hxl, hx⟩ := DataW.trod_struct ht h
  rw [ct] at hl
  obtain ⟨a, b, c, d, rfl⟩ : ∃ a b c d, cs = [a, b, c, d] := by
    match cs, hl with
    | [a, b, c, d], _ => exact ⟨a, b, c, d, rfl⟩
  obtain ⟨y0, y1, y2, y3, rfl⟩ : ∃ a b c d, xs = [a, b, c, d] := by
    match xs, hxl with
    | [a, b, c, d], _ => exact ⟨a, b, c, d, rfl⟩
  have h0 := hx 0 f0 rfl
  have h1 := hx 1 f1 rfl
  have h2 := hx 2 f2 rfl
  have h3 := hx 3 f3 rfl
  rw [o0, c0] at h0
  rw [o1, c1] at h1
  rw [o2, c2] at h2
  rw [o3, c3] at h3
  obtain ⟨k, e0, _, w0⟩ := DataW.trod_int i0 h0
  obtain ⟨m, e1, _, w1⟩ := DataW.trod_int i1 h1
  obtain ⟨s, e2, _, w2⟩ := DataW.trod_string i2 h2
  obtain rfl : a = .int .i64 k := by simpa using e0
  obtain rfl : b = .int .i64 m := by simpa using e1
  obtain rfl : c = .string s := by simpa using e2
  have wk : -9223372036854775808 ≤ k ∧ k ≤ 9223372036854775807 := by simpa [Lit.wf, IntKind.min, IntKind.max, IntKind.signed, IntKind.bits] using w0
  have wm : -9223372036854775808 ≤ m ∧ m ≤ 9223372036854775807 := by simpa [Lit.wf, IntKind.min, IntKind.max, IntKind.signed, IntKind.bits] using w1
  unfold maxLen at w2
  rcases DataW.trod_slice i3 h3 with ⟨e3, _⟩ | ⟨ad, len, cap, elems, rest, q, hq, e3, _, _, hlc, hcm, hel, hat, _, _⟩
  · obtain rfl : d = .slice none 0 0 := by simpa using e3
    exact ⟨.mk k m s 0 (fun _ => .nil), .slice none 0 0, rfl, ⟨wk, wm, w2, Nat.zero_le _, fun i hi => absurd hi (Nat.not_lt_zero _)⟩, none, 0, rfl, ⟨Nat.le_refl _, Nat.zero_le _⟩, .inl rfl⟩
  · obtain rfl : d = .slice (some ad) len cap := by simpa using e3
    unfold maxLen at hcm
    have hk : ∀ i, i < len → ∃ K : Nd, ∃ v, W.cells? 0 (ad.add (i * 4)) 4 = some [.int .i64 K.kind, .int .i64 K.num, .string K.name, v] ∧ K.Fine ∧ Row 0 W.heap.size W K v := by
      intro i hi
      have := hat i hi
      rw [ct, List.getElem?_eq_getElem (by omega : i < elems.length), Option.bind_eq_some_iff] at this
      obtain ⟨cs', hcs, htr⟩ := this
      obtain ⟨K, v, rfl, hf, hr⟩ := ih q (by omega) cs' _ htr
      exact ⟨K, v, hcs, hf, hr⟩
    have hin : Inhabited Nd := ⟨.nil⟩
    obtain ⟨f, hf⟩ := Go.Deep.choose_lt hk
    refine ⟨.mk k m s len f, .slice (some ad) len cap, rfl, ⟨wk, wm, w2, by show len ≤ _; omega, fun i hi => (hf i hi).choose_spec.2.1⟩, some ad, cap, rfl, ⟨hlc, hcm⟩, ?_⟩
    by_cases h0 : len = 0
    · exact .inl h0
    · refine .inr ⟨ad.block, ad.off, ?_, Nat.zero_le _, ?_, fun i hi => ?_⟩
      · obtain ⟨v, hc, _⟩ := hf 0 (by omega)
        have := (World.cells?_some hc).2.2 0 (by omega)
        have e : (ad.add (0 * 4)).add 0 = ad := by simp [Addr.add]
        rw [e] at this
        rw [← spot_none this]
      · obtain ⟨v, hc, _⟩ := hf 0 (by omega)
        have := (World.cells?_some hc).2.2 0 (by omega)
        have e : (ad.add (0 * 4)).add 0 = ad := by simp [Addr.add]
        rw [e] at this
        exact cell_lt this
      · have had : ad = ⟨ad.block, ad.off, none⟩ := by
          obtain ⟨v, hc, _⟩ := hf 0 (by omega)
          have := (World.cells?_some hc).2.2 0 (by omega)
          have e : (ad.add (0 * 4)).add 0 = ad := by simp [Addr.add]
          rw [e] at this
          exact spot_none this
        obtain ⟨v, hc, _, hr⟩ := hf i hi
        have hcc := (World.cells?_some hc).2.2
        have e : ∀ j, (ad.add (i * 4)).add j = ⟨ad.block, ad.off + i * 4 + j, none⟩ := fun j => by rw [add_none (add_none had (i * 4)) j]
        have g0 := hcc 0 (by omega)
        have g1 := hcc 1 (by omega)
        have g2 := hcc 2 (by omega)
        have g3 := hcc 3 (by omega)
        rw [e] at g0 g1 g2 g3
        exact ⟨v, g0, g1, g2, g3, hr⟩
end Go.Proofs.YtjgbjahcnnjfpaaDoor
