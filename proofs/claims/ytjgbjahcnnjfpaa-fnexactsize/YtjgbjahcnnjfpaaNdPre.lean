/- The nodes of a tree, ahead of their kids, with how deep each stands; what is left of them on a stack. -/
import Derived.Test.YtjgbjahcnnjfpaaNd
set_option linter.unusedVariables false
namespace Go.Proofs.Ytjgbjahcnnjfpaa
open Go.RowKit

def Nd.pre : Nd → Nat → List (Nd × Nat)
  | .nil, d => [(.nil, d)]
  | .mk k n s len kids, d => (.mk k n s len kids, d) :: (List.range len).flatMap fun i => (kids i).pre (d + 1)
def preL (D : Nd) (d : Nat) : List (Nd × Nat) := (List.range D.len).flatMap fun i => (D.kids i).pre d
def tailN (D : Nd) : Nd := .mk 0 0 ⟨#[]⟩ (D.len - 1) (fun i => D.kids (i + 1))
def oneN (T : Nd) : Nd := .mk 0 0 ⟨#[]⟩ 1 (fun _ => T)

theorem pre_eq (T : Nd) (d : Nat) : T.pre d = (T, d) :: preL T (d + 1) := by cases T <;> rfl
theorem preL_cons {D : Nd} (h : 0 < D.len) (d : Nat) : preL D d = (D.kids 0).pre d ++ preL (tailN D) d := by
  unfold preL
  obtain ⟨m, hm⟩ : ∃ m, D.len = m + 1 := ⟨D.len - 1, by omega⟩
  have : (tailN D).len = m := by show D.len - 1 = m; omega
  rw [this, hm, List.range_succ_eq_map, List.flatMap_cons, List.flatMap_map]
  rfl
theorem preL_none {D : Nd} (h : D.len = 0) (d : Nat) : preL D d = [] := by unfold preL; rw [h]; rfl
theorem preL_one (T : Nd) (d : Nat) : preL (oneN T) d = T.pre d := by
  show (List.range 1).flatMap _ = _
  simp [List.range_succ, oneN, Nd.kids]
theorem flatMap_len (f : Nat → List (Nd × Nat)) : ∀ n, ((List.range n).flatMap f).length = sumTo (fun i => (f i).length) n
  | 0 => rfl
  | n + 1 => by rw [List.range_succ, List.flatMap_append, List.length_append, flatMap_len f n]; simp [sumTo]
theorem sumTo_congr {f g : Nat → Nat} : ∀ {n : Nat}, (∀ i, i < n → f i = g i) → sumTo f n = sumTo g n
  | 0, _ => rfl
  | n + 1, h => by simp only [sumTo]; rw [sumTo_congr fun i hi => h i (by omega), h n (by omega)]
theorem pre_len (T : Nd) : ∀ d, (T.pre d).length = T.size := by
  induction T with
  | nil => intro d; rfl
  | mk k n s len kids ih =>
    intro d
    simp only [Nd.pre, List.length_cons, flatMap_len, Nd.size]
    rw [sumTo_congr fun i _ => ih i (d + 1)]; omega
theorem size_pos (T : Nd) : 0 < T.size := by rw [T.size_eq]; omega
theorem size_kid (T : Nd) {i : Nat} (h : i < T.len) : (T.kids i).size < T.size := by
  rw [T.size_eq]; have := sumTo_at (fun i => (T.kids i).size) h; omega
theorem pre_deep (T : Nd) : ∀ d p, p ∈ T.pre d → p.2 < d + T.size := by
  induction T with
  | nil => intro d p hp; simp [Nd.pre] at hp; subst hp; simp [Nd.size]
  | mk k n s len kids ih =>
    intro d p hp
    rw [pre_eq] at hp
    rcases List.mem_cons.1 hp with rfl | hp
    · have := size_pos (.mk k n s len kids); simp; omega
    · obtain ⟨i, hi, hp⟩ := List.mem_flatMap.1 hp
      have h1 : i < len := List.mem_range.1 hi
      have h2 := ih i (d + 1) p hp
      have h3 := size_kid (.mk k n s len kids) (i := i) h1
      have h4 : ((Nd.mk k n s len kids).kids i).size = (kids i).size := rfl
      omega

/-- What is left of a list of kids: its nodes, how deep they stand, its value. -/
structure Ent where
  D : Nd
  d : Nat
  v : Value
def remS (S : List Ent) : List (Nd × Nat) := S.flatMap fun e => preL e.D e.d
def flatS (S : List Ent) : List Value := S.reverse.flatMap fun e => [e.v, .int .i64 (e.d : Int)]
theorem flatS_cons (e : Ent) (S : List Ent) : flatS (e :: S) = flatS S ++ [e.v, .int .i64 (e.d : Int)] := by simp [flatS]
theorem flatS_len (S : List Ent) : (flatS S).length = S.length * 2 := by
  induction S with
  | nil => rfl
  | cons e S ih => rw [flatS_cons]; simp [ih]; omega
theorem remS_cons (e : Ent) (S : List Ent) : remS (e :: S) = preL e.D e.d ++ remS S := by simp [remS]
theorem rem_ge (S : List Ent) (h : ∀ e ∈ S, 0 < e.D.len) : S.length ≤ (remS S).length := by
  induction S with
  | nil => simp
  | cons e S ih =>
    have := ih fun x hx => h x (List.mem_cons_of_mem _ hx)
    have h0 := h e (List.mem_cons_self ..)
    rw [remS_cons, preL_cons h0, pre_eq]
    simp; omega
/-- One step of the walk: the top list's first node, then its kids, then what is left of that list. -/
def pushK (e : Ent) (K : Nd) (u : Value) (S : List Ent) : List Ent := if 0 < K.len then ⟨K, e.d + 1, u⟩ :: S else S
def pushT (e : Ent) (t : Value) (S : List Ent) : List Ent := if 1 < e.D.len then ⟨tailN e.D, e.d, t⟩ :: S else S
theorem rem_step (e : Ent) (S : List Ent) (u t : Value) (h : 0 < e.D.len) : remS (e :: S) = (e.D.kids 0, e.d) :: remS (pushK e (e.D.kids 0) u (pushT e t S)) := by
  have hT : remS (pushT e t S) = preL (tailN e.D) e.d ++ remS S := by
    unfold pushT
    split
    · rw [remS_cons]
    · rw [preL_none (by show e.D.len - 1 = 0; omega)]; rfl
  have hK : remS (pushK e (e.D.kids 0) u (pushT e t S)) = preL (e.D.kids 0) (e.d + 1) ++ remS (pushT e t S) := by
    unfold pushK
    split
    · rw [remS_cons]
    · rw [preL_none (by omega)]; rfl
  rw [remS_cons, preL_cons h, pre_eq, hK, hT]
  simp
end Go.Proofs.Ytjgbjahcnnjfpaa
