import Derived.Test.YtkfbbdhidecefaaDoorUDA
import Derived.Test.YtkfbbdhidecefaaDoorUKdP
set_option linter.unusedVariables false
set_option maxHeartbeats 16000000
set_option maxRecDepth 100000
namespace Go.Proofs.YtkfbbdhidecefaaDoor
open Go.RowKit
def PRC : Prop := ∀ (sb A : Nat) (w : World), A ≤ 1000000000 → Src sb A w → Calls Tryd.prog 11 #[.pointer (some ⟨sb, 0, none⟩)] w fun e w' => ∃ T a c, e = .returned (T.val (.slice a T.len c)) ∧ Drawn sb (A + 7000000) (fun T => qA T = 0) 1000000 w T (.slice a T.len c) w'
structure Pgm (w : World) (T : Nd) (u : Value) (w' : World) : Prop where
 row : Row w.heap.size w'.heap.size w' T u
 fine : T.Fine
 code : qA T = 0
 cost : T.cost ≤ 1000000
 below : Below w.heap.size w w'
theorem zi (PR : PRC) (ca : Option Addr) (cn cc : Nat) (w : World) (ig : cn ≤ 1048576) (iT : Bytes w.heap.size w ca cn) :
  Calls Tryd.prog 5 #[.slice ca cn cc] w fun e w' => ∃ T a c, e = .returned (T.val (.slice a T.len c)) ∧ Pgm w T (.slice a T.len c) w' := by
 have pw := aa (bO w gZ)
 have SA := aa (AT ca cn cc (w.alloc gZ) ig (iT.wide pw.out))
 have HZ := aa (heap_alloc_new w gZ)
 have PA := aa PR
 rw [World.size_alloc] at SA
 unfold gZ at SA
 clear iT
 go_enter Tryd.func5, Tryd.ntmps5
 go_wp2_with fail
 refine SA.out.mono ?_
 rintro e w1 ⟨rfl, aY, hb1, hZ⟩
 go_wp2_with fail
 refine (PA.out _ 0 _ (by omega) aY).mono ?_
 rintro e w2 ⟨T, a, c, rfl, hd⟩
 have hQ := hd.kp.size
 have mK : Hid (w2.heap[w.heap.size]? = some gZ) := (hd.kp.block _ (by omega) (by omega)).trans ((hb1.block _ (by omega)).trans HZ.out)
 have I7 : Hid (Below w.heap.size w w2) := by
  have KM := pw.out.trans (hb1.mono (Nat.le_succ _))
  refine ⟨hd.kp.os.trans KM.os, hd.kp.tape.trans KM.tape, hd.kp.output.trans KM.output, Nat.le_trans KM.size hd.kp.size, fun k hk => (hd.kp.block k (by omega) (by omega)).trans (KM.block k hk)⟩
 have HR := aa hd.row
 have HF := aa hd.fine
 have HC := aa hd.ok
 have HK := aa hd.cost
 obtain ⟨c0, c1, c2, c3, c4⟩ := tU mK.out
 clear hd aY hb1
 unfold Nd.val
 go_wp2
 refine bodyPost_ret (v := .agg #[.int .i64 T.kind, .int .i64 T.num, .string T.name, .slice a T.len c]) (AX mK.out Tryd.results5 rfl T.kind T.num T.name (.slice a T.len c)) rfl ⟨T, a, c, rfl, ?_, HF.out, HC.out, HK.out, AY I7.out _ _ _ _⟩
 have hs := lF w2 w.heap.size T.kind T.num T.name (.slice a T.len c)
 exact cD (gn lr lr (fun g o h1 h2 => World.cell?_of_block (a := ⟨g, o, none⟩) (iA w2 w.heap.size T.kind T.num T.name (.slice a T.len c) g (by omega))) HR.out) (by omega) (Nat.le_of_eq hs.symm)
def Nz {α : Type} (r : CR α) : Prop := ∀ e, r = .error e → e.1 ≠ 0
theorem Nz.ok {α : Type} (a : α) : Nz (.ok a : CR α) := fun e h => by cases h
theorem Nz.err {α : Type} {c : Int} {n : Nat} (h : c ≠ 0) : Nz (.error (c, n) : CR α) := fun e he => by cases he; exact h
theorem Nz.bind {α β : Type} {r : CR α} {f : α → CR β} (h : Nz r) (hf : ∀ a, Nz (f a)) : Nz (CR.bind r f) := by
 cases r with
 |error e => exact fun e' he => h e' (by cases he; rfl)
 |ok a => exact hf a
theorem Nz.forN {σ : Type} {f : Nat → σ → CR σ} (h : ∀ i s, Nz (f i s)) : ∀ n s, Nz (forN f n s)
 |0, s => Nz.ok s
 |n + 1, s => Nz.bind (Nz.forN h n s) (h n)
theorem Nz.ite {α : Type} {c : Prop} [Decidable c] {a b : CR α} (ha : Nz a) (hb : Nz b) : Nz (if c then a else b) := by by_cases h : c <;> simp only [h, if_true, if_false] <;> assumption
theorem rA {m : yB} (h : ∀ s, Nz (m s)) (s : CS) : Nz (iz m s) := Nz.bind (h s) fun r => Nz.ite (Nz.err (by decide)) (Nz.ok _)
theorem gU {m : yB} (h : ∀ s, Nz (m s)) (t : Int) (s : CS) : Nz (fM m t s) := Nz.bind (rA h s) fun r => Nz.ite (Nz.ok _) (Nz.err (by decide))
theorem Ki (F : Nd) (k : Int) (name : ByteArray) (len : Nat) (kids : Nat → yB) (h : ∀ i s, Nz (kids i s)) (s : CS) (a : Nat) : Nz (gi F k name len kids s a) := by
 unfold gi
 refine Nz.ite (Nz.ok _) (Nz.ite (Nz.ok _) (Nz.ite (Nz.ite (Nz.err (by decide)) (Nz.ok _)) (Nz.ite ?_ (Nz.ite (Nz.bind (Nz.forN (fun i => gU (h i) 1) _ _) fun _ => Nz.ok _) (Nz.ite (Nz.bind (gU (h 0) _ _) fun _ => Nz.ok _) (Nz.ite (Nz.bind (gU (h 0) _ _) fun _ => Nz.ok _) (Nz.ite (Nz.bind (rA (h 0) _) fun r => Nz.bind (gU (h 1) _ _) fun _ => Nz.ok _) (Nz.bind (gU (h 0) _ _) fun _ => Nz.bind (gU (h 1) _ _) fun _ => Nz.ok _))))))))
 cases findF F name with
 |none => exact Nz.err (by decide)
 |some j => exact Nz.ite (Nz.bind (Nz.forN (fun i => gU (h i) _) _ _) fun _ => Nz.ok _) (Nz.err (by decide))
theorem Gh (F : Nd) : ∀ (T : Nd) (s : CS), Nz (ll F T s)
 |.nil, s => Nz.ok _
 |.mk k n name len kids, s => by
  show Nz (Tu F k name len (fun i => ll F (kids i)) s)
  exact Nz.bind (Ki F k name len _ (fun i => Gh F (kids i)) _ _) fun _ => Nz.ok _
theorem wU {l : List (ByteArray × Int)} {m : CS → CR CS} (h : ∀ s, Nz (m s)) (s : CS) : Nz (within l m s) := Nz.bind (h _) fun _ => Nz.ok _
theorem Cm (len : Nat) (kids : Nat → MY) (h : ∀ i cx s, Nz (kids i cx s)) (cx : Cx) (s : CS) : Nz (tc len kids cx s) := Nz.forN (fun i => h i cx) _ _
theorem Rb (F : Nd) (k : Int) (name : ByteArray) (len : Nat) (num : Nat → Int) (ex : Nat → yB) (kids : Nat → Mn) (he : ∀ i s, Nz (ex i s)) (h1 : ∀ i cx s, Nz ((kids i).st cx s)) (h3 : ∀ i b cx s, Nz ((kids i).cs b cx s)) (cx : Cx) (s : CS) : Nz (stM F k name len num ex kids cx s) := by
 unfold stM
 refine Nz.ite (wU (fun s => Cm _ _ h1 _ _) _) (Nz.ite (Nz.bind (rA (he 0) _) fun _ => Nz.ite (Nz.err (by decide)) (Nz.ok _)) (Nz.ite (Nz.ite (Nz.err (by decide)) (gU (he 0) _ _)) (Nz.ite (Nz.ite (Nz.err (by decide)) (Nz.ite (Nz.ok _) (Nz.err (by decide)))) (Nz.ite (Nz.bind (gU (he 0) _ _) fun _ => gU (he 1) _ _) (Nz.ite (Nz.bind (he 0 _) fun _ => Nz.ok _) (Nz.ite (Nz.bind (gU (he 0) _ _) fun _ => Nz.forN (fun i => h1 (i + 1) cx) _ _) ?_))))))
 refine Nz.ite (Nz.bind (Nz.ite (gU (he 0) _ _) (Nz.ok _)) fun _ => h1 _ _ _) (Nz.ite (Nz.ite (Nz.ite (gU (he 0) _ _) (Nz.ok _)) (Nz.err (by decide))) (Nz.ite (Nz.forN (fun i => h3 i _ _) _ _) (Nz.ite (Nz.ite (Nz.err (by decide)) (Nz.ok _)) (Nz.ite (Nz.ite (Nz.err (by decide)) (Nz.ok _)) (Nz.ite (gU (he 0) _ _) (Nz.ite (Nz.bind (rA (he 0) _) fun _ => Nz.ite (Nz.err (by decide)) (Nz.ok _)) (Nz.ite (gU (he 0) _ _) (Nz.ok _))))))))
theorem Rc (n : Int) (name : ByteArray) (len : Nat) (ex : Nat → yB) (kids : Nat → Mn) (he : ∀ i s, Nz (ex i s)) (h2 : ∀ i cx s, Nz ((kids i).sts cx s)) (b : Bool) (cx : Cx) (s : CS) : Nz (I2 n name len ex kids b cx s) := by
 unfold I2
 exact Nz.ite (Nz.err (by decide)) (Nz.bind (Nz.ite (gU (he 0) _ _) (Nz.ok _)) fun _ => Nz.bind (Nz.ite (gU (he 1) _ _) (Nz.ok _)) fun _ => wU (fun _ => h2 _ _ _) _)
theorem zm (F : Nd) : ∀ (T : Nd), (∀ cx s, Nz ((iB F T).st cx s)) ∧ (∀ cx s, Nz ((iB F T).sts cx s)) ∧ (∀ b cx s, Nz ((iB F T).cs b cx s))
  | .nil => ⟨fun _ _ => Nz.ok _, fun _ _ => Nz.ok _, fun _ _ _ => Nz.ok _⟩
  | .mk k n name len kids =>
    ⟨fun cx s => Rb F k name len _ _ _ (fun i => Gh F (kids i)) (fun i => (zm F (kids i)).1) (fun i => (zm F (kids i)).2.2) cx s,
     fun cx s => Cm len _ (fun i => (zm F (kids i)).1) cx s,
     fun b cx s => Rc n name len _ _ (fun i => Gh F (kids i)) (fun i => (zm F (kids i)).2.1) b cx s⟩
theorem NU (F T : Nd) (X : List Int) : Nz (vf F T X) := by
 unfold vf
 exact Nz.bind (Nz.forN (fun i s => by unfold sD; exact Nz.ite (Nz.err (by decide)) (Nz.ok _)) _ _) fun _ => Nz.bind ((zm F _).2.1 _ _) fun _ => Nz.ite (Nz.err (by decide)) (Nz.ok _)
theorem Gg (F : Nd) (i : Nat) (u : Unit) : Nz (ld F i u) := by unfold ld; exact Nz.ite (Nz.ok _) (Nz.err (by decide))
theorem Gi (T : Nd) : Nz (lT T) := Nz.bind (Nz.forN (Gg T) _ _) fun _ => Nz.forN (fun i => NU T (T.kids i)) _ _
theorem Ev {T : Nd} (h : qA T = 0) : gg T = true ∧ Gb T = 0 ∧ (Ff T).length = T.size := by
 unfold qA at h
 by_cases ht : gg T = true
 ·rw [if_pos ht] at h
  cases hM : lT T with
  |error p => rw [hM] at h; exact absurd h (Gi T p hM)
  |ok X =>
   have hX : X.length = T.size := by
    have := BC ht lr X hM
    rw [this, qg]; omega
   exact ⟨ht, by unfold Gb; rw [if_pos ht, hM], by unfold Ff; rw [if_pos ht, hM]; exact hX⟩
 ·rw [if_neg ht] at h; omega
end Go.Proofs.YtkfbbdhidecefaaDoor
