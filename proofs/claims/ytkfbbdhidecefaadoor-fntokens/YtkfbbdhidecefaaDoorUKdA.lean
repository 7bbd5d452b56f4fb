import Derived.Test.YtkfbbdhidecefaaDoorUKaBase
import Derived.BigQuiet
import Derived.Deep.RegionWith
set_option linter.unusedVariables false
set_option maxHeartbeats 16000000
set_option maxRecDepth 100000
namespace Go.Proofs.YtkfbbdhidecefaaDoor
open Go.RowKit
variable {G : Prop}
theorem bB0 (h : G := by
 obtain ⟨s1, h3, h4⟩ := bb h1
 injection h4 with h4; subst h4
 have := CI (g := fun i => (T.kids i).size) (fun i hi => (ih i hi (he i hi)).want _) lr _ _ h3
 exact ⟨this.1, by rw [this.2]; omega⟩) : G := h
theorem bB1 (h : G := by
 obtain ⟨s1, h3, h4⟩ := bb h1
 injection h4 with h4; subst h4
 have := bz 0 (by omega) he _ _ _ h3
 rw [hl] at hz; simp only [ag] at hz
 exact ⟨this.1, by rw [this.2]; omega⟩) : G := h
theorem bB2 (h : G := by
 have ht := b5 s
 have PZ : (ao s).1 = s.1 := rfl
 rw [a1, PZ]
 exact ⟨rfl, rfl, by omega, by omega⟩) : G := h
theorem bB3 (h : G := by
 rw [hl] at hz; simp only [ag] at hz
 exact ⟨rfl, by show (ao s).2.length = _; omega⟩) : G := h
theorem bB4 (h : G := by
 rw [hz]; exact ((hE 0 (by omega) he).want _).st.take s s' hs e) : G := h
abbrev Sc := List (List (ByteArray × Int))
abbrev CS := Sc × List Int
abbrev CR (α : Type) := Except (Int × Nat) α
def CR.bind {α β : Type} (r : CR α) (f : α → CR β) : CR β := match r with | .error e => .error e | .ok a => f a
theorem CR.bind_ok {α β : Type} (a : α) (f : α → CR β) : CR.bind (.ok a) f = f a := rfl
theorem CR.bind_error {α β : Type} (e : Int × Nat) (f : α → CR β) : CR.bind (.error e : CR α) f = .error e := rfl
def QZ (l : List (ByteArray × Int)) (s : ByteArray) : Int := match l.find? (fun p => decide (p.1 = s)) with | some p => p.2 | none => 0
def look (E : Sc) (s : ByteArray) : Int := QZ E.flatten s
def xc (E : Sc) (s : ByteArray) : Bool := match E with | [] => false | l :: _ => l.any (fun p => decide (p.1 = s))
def lN (E : Sc) (s : ByteArray) (t : Int) : Sc := match E with | [] => [[(s, t)]] | l :: E => ((s, t) :: l) :: E
def forN {σ : Type} (f : Nat → σ → CR σ) : Nat → σ → CR σ
 |0, s => .ok s
 |n + 1, s => CR.bind (forN f n s) (f n)
abbrev yB := CS → CR (Int × CS)
def ao (s : CS) : CS := (s.1, s.2 ++ [0])
def iz (m : yB) : yB := fun s => CR.bind (m s) fun r => if r.1 = 0 then .error (9, s.2.length) else .ok r
def fM (m : yB) (t : Int) : CS → CR CS := fun s => CR.bind (iz m s) fun r => if r.1 = t then .ok r.2 else .error (7, s.2.length)
def En (s : ByteArray) : Bool := hasB [⟨#[61, 61]⟩, ⟨#[33, 61]⟩] s
def A4 (s : ByteArray) : Bool := hasB [⟨#[33]⟩] s
def nZ (F : Nd) (s : ByteArray) : Nat → Option Nat
 |0 => none
 |n + 1 => match nZ F s n with | some i => some i | none => if (F.kids n).name = s then some n else none
def findF (F : Nd) (s : ByteArray) : Option Nat := nZ F s F.len
def gi (F : Nd) (k : Int) (name : ByteArray) (len : Nat) (kids : Nat → yB) (s : CS) (at' : Nat) : CR (Int × CS) :=
 if k = 22 then .ok (1, s)
 else if k = 23 then .ok (2, s)
 else if k = 24 then (if look s.1 name = 0 then .error (5, at') else .ok (look s.1 name, s))
 else if k = 25 then
  match findF F name with
  |none => .error (5, at')
  |some j => if len + 1 = (F.kids j).len then CR.bind (forN (fun i => fM (kids i) ((F.kids j).kids i).num) len s) fun s1 => .ok ((F.kids j).num, s1) else .error (8, at')
 else if k = 26 then CR.bind (forN (fun i => fM (kids i) 1) len s) fun s1 => .ok (3, s1)
 else if k = 27 then CR.bind (fM (kids 0) (if A4 name then 2 else 1) s) fun s1 => .ok (if A4 name then 2 else 1, s1)
 else if k = 29 then CR.bind (fM (kids 0) 3 s) fun s1 => .ok (1, s1)
 else if En name then CR.bind (iz (kids 0) s) fun r => CR.bind (fM (kids 1) r.1 r.2) fun s2 => .ok (2, s2)
 else CR.bind (fM (kids 0) (if lX name = 1 ∨ lX name = 2 then 2 else 1) s) fun s1 =>
  CR.bind (fM (kids 1) (if lX name = 1 ∨ lX name = 2 then 2 else 1) s1) fun s2 =>
   .ok (if lX name = 1 ∨ lX name = 2 ∨ lX name = 3 then 2 else 1, s2)
def Tu (F : Nd) (k : Int) (name : ByteArray) (len : Nat) (kids : Nat → yB) : yB := fun s =>
 CR.bind (gi F k name len kids (ao s) s.2.length) fun r => .ok (r.1, (r.2.1, r.2.2.set s.2.length r.1))
def ll (F : Nd) : Nd → yB
 |.nil => fun s => .ok (0, ao s)
 |.mk k _ name len kids => Tu F k name len (fun i => ll F (kids i))
theorem BG (F : Nd) {T : Nd} (h : T.eOk = true) : ll F T = Tu F T.kind T.name T.len (fun i => ll F (T.kids i)) := by cases T with | nil => simp [Nd.eOk, A2] at h | mk => rfl
structure Cx where
 ret : Int
 loops : Nat
 outs : Nat
abbrev MY := Cx → CS → CR CS
def within (l : List (ByteArray × Int)) (m : CS → CR CS) : CS → CR CS := fun s => CR.bind (m (l :: s.1, s.2)) fun s1 => .ok (s1.1.tail, s1.2)
def tc (len : Nat) (kids : Nat → MY) : MY := fun cx s => forN (fun i => kids i cx) len (ao s)
def pU (p : Nat → Bool) : Nat → Bool
 |0 => false
 |n + 1 => pU p n || p n
structure Mn where
 st : MY
 sts : MY
 cs : Bool → MY
def stM (F : Nd) (k : Int) (name : ByteArray) (len : Nat) (num : Nat → Int) (ex : Nat → yB) (kids : Nat → Mn) : MY := fun cx s =>
 if k = 4 then within [] (tc len (fun i => (kids i).st) cx) s
 else if k = 5 then CR.bind (iz (ex 0) (ao s)) fun r => if xc r.2.1 name then .error (6, s.2.length) else .ok (lN r.2.1 name r.1, r.2.2)
 else if k = 6 then (if look s.1 name = 0 then .error (5, s.2.length) else fM (ex 0) (look s.1 name) (ao s))
 else if k = 7 then (if look s.1 name = 0 then .error (5, s.2.length) else if look s.1 name = 1 then .ok (ao s) else .error (7, s.2.length))
 else if k = 8 then CR.bind (fM (ex 0) 3 (ao s)) (fM (ex 1) 1)
 else if k = 9 ∨ k = 13 ∨ k = 14 then CR.bind (ex 0 (ao s)) fun r => .ok r.2
 else if k = 10 then CR.bind (fM (ex 0) 2 (ao s)) (forN (fun i => (kids (i + 1)).st cx) (len - 1))
 else if k = 11 then CR.bind (if len = 2 then fM (ex 0) 2 (ao s) else .ok (ao s)) ((kids (len - 1)).st { cx with loops := cx.loops + 1, outs := cx.outs + 1 })
 else if k = 12 then (if decide (0 < len) = decide (cx.ret ≠ 0) then (if 0 < len then fM (ex 0) cx.ret (ao s) else .ok (ao s)) else .error (9, s.2.length))
 else if k = 15 then forN (fun i => (kids i).cs (pU (fun j => decide (num j = 0)) i) { cx with outs := cx.outs + 1 }) len (ao s)
 else if k = 17 then (if cx.outs = 0 then .error (10, s.2.length) else .ok (ao s))
 else if k = 18 then (if cx.loops = 0 then .error (10, s.2.length) else .ok (ao s))
 else if k = 19 then fM (ex 0) 3 (ao s)
 else if k = 20 then CR.bind (iz (ex 0) (ao s)) fun r => if r.1 = 3 then .error (7, s.2.length + 1) else .ok r.2
 else if k = 21 then fM (ex 0) 1 (ao s)
 else .ok (ao s)
def I2 (n : Int) (name : ByteArray) (len : Nat) (ex : Nat → yB) (kids : Nat → Mn) (found : Bool) : MY := fun cx s =>
 if n = 0 ∧ found = true then .error (6, s.2.length)
 else CR.bind (if 0 < n then fM (ex 0) 3 (ao s) else .ok (ao s)) fun s1 =>
  CR.bind (if n = 2 then fM (ex 1) 1 s1 else .ok s1) fun s2 =>
   within (if az name then [] else [(name, 1)]) ((kids (len - 1)).sts cx) s2
def iB (F : Nd) : Nd → Mn
  | .nil => ⟨fun _ s => .ok s, fun _ s => .ok s, fun _ _ s => .ok s⟩
  | .mk k n name len kids =>
    ⟨stM F k name len (fun i => (kids i).num) (fun i => ll F (kids i)) (fun i => iB F (kids i)),
     tc len (fun i => (iB F (kids i)).st),
     I2 n name len (fun i => ll F (kids i)) (fun i => iB F (kids i))⟩
def kW : Nd → Bool
 |.nil => false
 |.mk k _ _ len kids => if k = 17 then true else if k = 11 ∨ k = 15 then false else pU (fun i => kW (kids i)) len
def nC : Nd → Bool
 |.nil => false
 |.mk k _ _ len kids =>
  if k = 12 ∨ k = 21 then true
  else if k = 4 then decide (0 < len) && nC (kids (len - 1))
  else if k = 10 then decide (len = 3) && (nC (kids 1) && nC (kids 2))
  else if k = 11 then decide (len = 1) && !kW (kids 0)
  else false
def sD (T : Nd) (i : Nat) : CS → CR CS := fun s => if xc s.1 (T.kids i).name then .error (6, s.2.length) else .ok (lN s.1 (T.kids i).name (T.kids i).num, s.2 ++ [0])
def vf (F T : Nd) : List Int → CR (List Int) := fun X =>
 CR.bind (forN (sD T) (T.len - 1) ([[]], X ++ [0])) fun s1 =>
  CR.bind ((iB F (T.kids (T.len - 1))).sts ⟨T.num, 0, 0⟩ s1) fun s2 =>
   if T.num ≠ 0 ∧ nC (T.kids (T.len - 1)) = false then .error (9, X.length) else .ok s2.2
def ld (F : Nd) (i : Nat) : Unit → CR Unit := fun _ => if findF F (F.kids i).name = some i then .ok () else .error (6, 1 + ag (fun j => (F.kids j).size) i)
def lT (F : Nd) : CR (List Int) :=
 CR.bind (forN (ld F) F.len ()) fun _ => forN (fun i => vf F (F.kids i)) F.len [0]
def Nd.sizes (T : Nd) (n : Nat) : Nat := ag (fun i => (T.kids i).size) n
theorem z7 {σ : Type} {f : Nat → σ → CR σ} {m : σ → Nat} {g : Nat → Nat} {P : σ → Prop} {n : Nat} (h : ∀ i s s', i < n → P s → f i s = .ok s' → m s' = m s + g i ∧ P s') :
  ∀ {k : Nat}, k ≤ n → ∀ {s s' : σ}, P s → forN f k s = .ok s' → m s' = m s + ag g k ∧ P s'
 |0, _, s, s', hp, e => by injection e with e; subst e; exact ⟨rfl, hp⟩
 |k + 1, hk, s, s', hp, e => by
  rw [forN] at e
  cases hr : forN f k s with
  |error x => rw [hr] at e; cases e
  |ok s1 =>
   rw [hr, CR.bind_ok] at e
   obtain ⟨h1, h2⟩ := z7 h (Nat.le_of_succ_le hk) hp hr
   obtain ⟨h3, h4⟩ := h k s1 s' hk h2 e
   exact ⟨by simp only [ag]; omega, h4⟩
theorem nP {e st : Nat → Bool} {kk : Nat → Int} {len : Nat} {s : ByteArray} (h : aE e st kk len s = true) : len = s.size ∧ ∀ i, i < s.size → fU e st kk (s.data.toList.getD i 0).toNat i = true := by
 unfold aE at h
 simp only [Bool.and_eq_true, decide_eq_true_eq] at h
 exact ⟨h.1, bD.1 h.2⟩
theorem Bd {e st : Nat → Bool} {kk : Nat → Int} {i : Nat} (h : fU e st kk 98 i = true) : kk i = 4 ∧ st i = true := by
 simp [fU] at h; exact h
theorem ko_i {e st : Nat → Bool} {kk : Nat → Int} {i : Nat} (h : fU e st kk 105 i = true) : (kk i = 4 ∨ kk i = 10) ∧ st i = true := by
 simp [fU] at h; exact h
theorem yd {e st : Nat → Bool} {kk : Nat → Int} {i : Nat} (h : fU e st kk 101 i = true) : e i = true := by
 simpa [fU] using h
theorem ko_c {e st : Nat → Bool} {kk : Nat → Int} {i : Nat} (h : fU e st kk 99 i = true) : e i = true := by
 simp [fU] at h; exact h.2
theorem rE {e st : Nat → Bool} {kk : Nat → Int} {len : Nat} (h : aE e st kk len ⟨#[101]⟩ = true) : len = 1 ∧ e 0 = true := ⟨(nP h).1, yd ((nP h).2 0 (by decide))⟩
theorem Mb {e st : Nat → Bool} {kk : Nat → Int} {len : Nat} (h : aE e st kk len ⟨#[99]⟩ = true) : len = 1 ∧ e 0 = true := ⟨(nP h).1, ko_c ((nP h).2 0 (by decide))⟩
theorem Ma {e st : Nat → Bool} {kk : Nat → Int} {len : Nat} (h : aE e st kk len ⟨#[101, 101]⟩ = true) : len = 2 ∧ e 0 = true ∧ e 1 = true := ⟨(nP h).1, yd ((nP h).2 0 (by decide)), yd ((nP h).2 1 (by decide))⟩
theorem CO {T : Nd} (h : T.eOk = true) : T.kind = 22 ∨ T.kind = 23 ∨ T.kind = 24 ∨ T.kind = 25 ∨ T.kind = 26 ∨ T.kind = 27 ∨ T.kind = 28 ∨ T.kind = 29 := by
 rw [b8] at h
 unfold cq at h
 repeat' split at h
 all_goals first | omega | cases h
theorem yq {T : Nd} (hk : T.kind = 22 ∨ T.kind = 23 ∨ T.kind = 24) (h : T.eOk = true) : T.len = 0 := by
 rw [b8] at h
 rcases hk with hk | hk | hk <;> rw [hk] at h <;> simp [cq] at h
 ·exact h.2.2
 ·exact h.2.2
 ·exact h.2.2
theorem MS {T : Nd} (hk : T.kind = 25) (h : T.eOk = true) : ∀ i, i < T.len → (T.kids i).eOk = true := by
 rw [b8, hk] at h
 simp [cq] at h
 exact bD.1 h.2.2
theorem H5 {T : Nd} (hk : T.kind = 26) (h : T.eOk = true) : T.len < 2 ∧ ∀ i, i < T.len → (T.kids i).eOk = true := by
 rw [b8, hk] at h
 simp [cq] at h
 exact ⟨h.2.1, bD.1 h.2.2⟩
theorem H4 {T : Nd} (hk : T.kind = 27) (h : T.eOk = true) : T.len = 1 ∧ (T.kids 0).eOk = true := by
 rw [b8, hk] at h
 simp [cq] at h
 exact rE h.2.2
theorem MR {T : Nd} (hk : T.kind = 29) (h : T.eOk = true) : T.len = 1 ∧ (T.kids 0).eOk = true := by
 rw [b8, hk] at h
 simp [cq] at h
 exact rE h.2
theorem xt {T : Nd} (hk : T.kind = 28) (h : T.eOk = true) : 0 < lX T.name ∧ T.len = 2 ∧ (T.kids 0).eOk = true ∧ (T.kids 1).eOk = true := by
 rw [b8, hk] at h
 simp [cq] at h
 exact ⟨h.2.1, Ma h.2.2⟩
theorem Cg {T : Nd} (h : T.sOk = true) : T.kind = 4 ∨ T.kind = 5 ∨ T.kind = 6 ∨ T.kind = 7 ∨ T.kind = 8 ∨ T.kind = 9 ∨ T.kind = 10 ∨ T.kind = 11 ∨ T.kind = 12 ∨ T.kind = 13 ∨ T.kind = 14 ∨ T.kind = 15 ∨ T.kind = 17 ∨ T.kind = 18 ∨ T.kind = 19 ∨ T.kind = 20 ∨ T.kind = 21 := by
 refine Classical.byContradiction fun hn => ?_
 simp only [not_or] at hn
 obtain ⟨h1, h2, h3, h4, h5, h6, h7, h8, h9, lA, rM, tM, CG, CF, vN, Qh, wb⟩ := hn
 rw [aG] at h
 simp [aJ, h1, h2, h3, h4, h5, h6, h7, h8, h9, lA, rM, tM, CG, CF, vN, Qh, wb] at h
theorem FW {T : Nd} (hk : T.kind = 4) (h : T.sOk = true) : ∀ i, i < T.len → (T.kids i).sOk = true := by
 rw [aG, hk] at h
 simp [aJ] at h
 exact bD.1 h.2
theorem sB {T : Nd} (hk : T.kind = 5 ∨ T.kind = 6 ∨ T.kind = 9 ∨ T.kind = 13 ∨ T.kind = 14 ∨ T.kind = 19 ∨ T.kind = 20 ∨ T.kind = 21) (h : T.sOk = true) : T.len = 1 ∧ (T.kids 0).eOk = true := by
 rw [aG] at h
 rcases hk with hk | hk | hk | hk | hk | hk | hk | hk <;> rw [hk] at h <;> simp [aJ] at h
 ·exact rE h.2
 ·exact rE h.2
 ·exact rE h.2.1
 ·exact Mb h.2
 ·exact Mb h.2
 ·exact rE h.2
 ·exact rE h.2
 ·exact rE h.2
theorem xS {T : Nd} (hk : T.kind = 7 ∨ T.kind = 17 ∨ T.kind = 18) (h : T.sOk = true) : T.len = 0 := by
 rw [aG] at h
 rcases hk with hk | hk | hk <;> rw [hk] at h <;> simp [aJ] at h
 ·exact h.2.2
 ·exact h.2
 ·exact h.2
theorem QX {T : Nd} (hk : T.kind = 8) (h : T.sOk = true) : T.len = 2 ∧ (T.kids 0).eOk = true ∧ (T.kids 1).eOk = true := by
 rw [aG, hk] at h
 simp [aJ] at h
 exact Ma h.2
theorem L3 {T : Nd} (hk : T.kind = 10) (h : T.sOk = true) : (T.len = 2 ∨ T.len = 3) ∧ (T.kids 0).eOk = true ∧ ((T.kids 1).kind = 4 ∧ (T.kids 1).sOk = true) ∧ (T.len = 3 → ((T.kids 2).kind = 4 ∨ (T.kids 2).kind = 10) ∧ (T.kids 2).sOk = true) := by
 rw [aG, hk] at h
 simp only [aJ, Int.reduceEq, if_true, if_false, or_self, Bool.and_eq_true, Bool.or_eq_true] at h
 rcases h.2 with h | h
 ·obtain ⟨h1, h2⟩ := nP h
  have h1 : T.len = 2 := h1
  exact ⟨.inl h1, yd (h2 0 (by decide)), Bd (h2 1 (by decide)), fun h => by omega⟩
 ·obtain ⟨h1, h2⟩ := nP h
  have h1 : T.len = 3 := h1
  exact ⟨.inr h1, yd (h2 0 (by decide)), Bd (h2 1 (by decide)), fun _ => ko_i (h2 2 (by decide))⟩
theorem L2 {T : Nd} (hk : T.kind = 11) (h : T.sOk = true) : (T.len = 1 ∧ (T.kids 0).kind = 4 ∧ (T.kids 0).sOk = true) ∨ (T.len = 2 ∧ (T.kids 0).eOk = true ∧ ((T.kids 1).kind = 4 ∧ (T.kids 1).sOk = true)) := by
 rw [aG, hk] at h
 simp only [aJ, Int.reduceEq, if_true, if_false, or_self, Bool.and_eq_true, Bool.or_eq_true] at h
 rcases h.2 with h | h
 ·obtain ⟨h1, h2⟩ := nP h
  exact .inl ⟨h1, Bd (h2 0 (by decide))⟩
 ·obtain ⟨h1, h2⟩ := nP h
  exact .inr ⟨h1, yd (h2 0 (by decide)), Bd (h2 1 (by decide))⟩
theorem L1 {T : Nd} (hk : T.kind = 12) (h : T.sOk = true) : T.len = 0 ∨ (T.len = 1 ∧ (T.kids 0).eOk = true) := by
 rw [aG, hk] at h
 simp [aJ] at h
 rcases h.2 with h | h
 ·exact .inl h
 ·exact .inr (rE h)
theorem L0 {T : Nd} (hk : T.kind = 15) (h : T.sOk = true) : ∀ i, i < T.len → (T.kids i).cOk = true := by
 rw [aG, hk] at h
 simp [aJ] at h
 exact bD.1 h.2
theorem MU {T : Nd} (h : T.cOk = true) : T.kind = 16 ∧ ((T.num = 0 ∧ T.len = 1) ∨ (T.num = 1 ∧ T.len = 2 ∧ (T.kids 0).eOk = true) ∨ (T.num = 2 ∧ T.len = 3 ∧ (T.kids 0).eOk = true ∧ (T.kids 1).eOk = true)) ∧ (T.kids (T.len - 1)).kind = 4 ∧ (T.kids (T.len - 1)).sOk = true := by
 rw [pQ] at h
 by_cases hk : T.kind = 16
 ·simp only [mE, hk, if_true, Bool.and_eq_true] at h
  have h := h.2
  by_cases h0 : T.num = 0
  ·rw [if_pos h0] at h
   obtain ⟨h1, h2⟩ := nP h
   have h1 : T.len = 1 := h1
   have h3 := Bd (h2 0 (by decide))
   refine ⟨hk, .inl ⟨h0, h1⟩, ?_⟩
   rw [h1]; exact h3
  rw [if_neg h0] at h
  by_cases h1 : T.num = 1
  ·rw [if_pos h1] at h
   obtain ⟨h4, h2⟩ := nP h
   have h4 : T.len = 2 := h4
   refine ⟨hk, .inr (.inl ⟨h1, h4, yd (h2 0 (by decide))⟩), ?_⟩
   rw [h4]; exact Bd (h2 1 (by decide))
  rw [if_neg h1] at h
  by_cases h2 : T.num = 2
  ·rw [if_pos h2] at h
   obtain ⟨h4, h5⟩ := nP h
   have h4 : T.len = 3 := h4
   refine ⟨hk, .inr (.inr ⟨h2, h4, yd (h5 0 (by decide)), yd (h5 1 (by decide))⟩), ?_⟩
   rw [h4]; exact Bd (h5 2 (by decide))
  ·rw [if_neg h2] at h; cases h
 ·simp only [mE, hk, if_false] at h; cases h
theorem bb {α β : Type} {r : CR α} {f : α → CR β} {b : β} (h : CR.bind r f = .ok b) : ∃ a, r = .ok a ∧ f a = .ok b := by
 cases r with
 |error e => cases h
 |ok a => exact ⟨a, rfl, h⟩
theorem nf {m : yB} {s : CS} {r : Int × CS} (h : iz m s = .ok r) : m s = .ok r ∧ r.1 ≠ 0 := by
 obtain ⟨a, h1, h2⟩ := bb h
 split at h2
 ·cases h2
 ·injection h2 with h2; subst h2; exact ⟨h1, by assumption⟩
theorem Dd {m : yB} {t : Int} {s s' : CS} (h : fM m t s = .ok s') : m s = .ok (t, s') ∧ t ≠ 0 := by
 obtain ⟨a, h1, h2⟩ := bb h
 obtain ⟨h3, h4⟩ := nf h1
 split at h2
 ·injection h2 with h2; subst h2; rename_i e; subst e; exact ⟨h3, h4⟩
 ·cases h2
def ExL (m : yB) (n : Nat) : Prop := ∀ s t s', m s = .ok (t, s') → s'.1 = s.1 ∧ s'.2.length = s.2.length + n
def WtL (m : CS → CR CS) (n : Nat) : Prop := ∀ s s', m s = .ok s' → s'.1 = s.1 ∧ s'.2.length = s.2.length + n
theorem ExL.value {m : yB} {n : Nat} (h : ExL m n) : ExL (iz m) n := fun s t s' e => h s t s' (nf e).1
theorem ExL.want {m : yB} {n : Nat} (h : ExL m n) (t : Int) : WtL (fM m t) n := fun s s' e => h s t s' (Dd e).1
theorem b5 (s : CS) : (ao s).2.length = s.2.length + 1 := by simp [ao]
theorem CI {f : Nat → CS → CR CS} {g : Nat → Nat} {n : Nat} (h : ∀ i, i < n → WtL (f i) (g i)) {k : Nat} (hk : k ≤ n) : WtL (forN f k) (ag g k) := by
  intro s s' e
  have := z7 (f := f) (m := fun s : CS => s.2.length) (g := g) (P := fun s' : CS => s'.1 = s.1) (n := n) (fun i a b hi hp e => by
    obtain ⟨h1, h2⟩ := h i hi a b e
    exact ⟨h2, h1.trans hp⟩) hk rfl e
  exact ⟨this.2, this.1⟩
theorem pK (F : Nd) : ∀ T : Nd, T.eOk = true → ExL (ll F T) T.size := by
 have step : ∀ T : Nd, (∀ i, i < T.len → (T.kids i).eOk = true → ExL (ll F (T.kids i)) (T.kids i).size) → T.eOk = true → ExL (ll F T) T.size := by
  intro T ih ax s t s' e
  rw [BG F ax] at e
  obtain ⟨r, h1, h2⟩ := bb e
  injection h2 with h2
  have hs : s'.1 = r.2.1 ∧ s'.2.length = r.2.2.length := by
   injection h2 with h3 h4
   subst h4
   exact ⟨rfl, by simp⟩
  have hz := T.size_eq
  have key : r.2.1 = s.1 ∧ r.2.2.length = s.2.length + T.size := by
   have ht := b5 s
   have PZ : (ao s).1 = s.1 := rfl
   have bz : ∀ i, i < T.len → (T.kids i).eOk = true → ∀ (x : Int) (a b : CS), fM (ll F (T.kids i)) x a = .ok b → b.1 = a.1 ∧ b.2.length = a.2.length + (T.kids i).size := fun i hi he x a b e => (ih i hi he).want x a b e
   unfold gi at h1
   by_cases Bx : T.kind = 22
   ·rw [if_pos Bx] at h1; injection h1 with h1; subst h1
    have hl := yq (.inl Bx) ax
    exact bB3
   rw [if_neg Bx] at h1
   by_cases ym : T.kind = 23
   ·rw [if_pos ym] at h1; injection h1 with h1; subst h1
    have hl := yq (.inr (.inl ym)) ax
    exact bB3
   rw [if_neg ym] at h1
   by_cases AA : T.kind = 24
   ·rw [if_pos AA] at h1
    split at h1
    ·cases h1
    injection h1 with h1; subst h1
    have hl := yq (.inr (.inr AA)) ax
    exact bB3
   rw [if_neg AA] at h1
   by_cases yl : T.kind = 25
   ·rw [if_pos yl] at h1
    have he := MS yl ax
    split at h1
    ·cases h1
    split at h1
    ·exact bB0
    ·cases h1
   rw [if_neg yl] at h1
   by_cases xn : T.kind = 26
   ·rw [if_pos xn] at h1
    obtain ⟨_, he⟩ := H5 xn ax
    exact bB0
   rw [if_neg xn] at h1
   by_cases yK : T.kind = 27
   ·rw [if_pos yK] at h1
    obtain ⟨hl, he⟩ := H4 yK ax
    exact bB1
   rw [if_neg yK] at h1
   by_cases zZ : T.kind = 29
   ·rw [if_pos zZ] at h1
    obtain ⟨hl, he⟩ := MR zZ ax
    exact bB1
   rw [if_neg zZ] at h1
   have Az : T.kind = 28 := by have := CO ax; omega
   obtain ⟨_, hl, lj, rL⟩ := xt Az ax
   rw [hl] at hz; simp only [ag] at hz
   split at h1
   ·obtain ⟨r0, h3, h4⟩ := bb h1
    obtain ⟨s2, h5, h6⟩ := bb h4
    injection h6 with h6; subst h6
    obtain ⟨a1, a2⟩ := (ih 0 (by omega) lj).value _ _ _ h3
    have := bz 1 (by omega) rL _ _ _ h5
    exact ⟨this.1.trans a1, by rw [this.2, a2]; omega⟩
   ·obtain ⟨r0, h3, h4⟩ := bb h1
    obtain ⟨s2, h5, h6⟩ := bb h4
    injection h6 with h6; subst h6
    obtain ⟨a1, a2⟩ := bz 0 (by omega) lj _ _ _ h3
    have := bz 1 (by omega) rL _ _ _ h5
    exact ⟨this.1.trans a1, by rw [this.2, a2]; omega⟩
  exact ⟨hs.1.trans key.1, hs.2.trans key.2⟩
 intro T
 induction T with
 |nil => intro h; simp [Nd.eOk, A2] at h
 |mk k n s len kids ih => exact step _ (fun i _ => ih i)
def cy (E : Sc) : Nat := E.flatten.length
theorem qd {E : Sc} (h : E ≠ []) (s : ByteArray) (t : Int) : (lN E s t).tail = E.tail ∧ (lN E s t).length = E.length ∧ cy (lN E s t) = cy E + 1 := by
 cases E with
 |nil => exact absurd rfl h
 |cons l E => exact ⟨rfl, rfl, by simp [lN, cy]⟩
def StL (m : CS → CR CS) (n : Nat) : Prop := ∀ s s', s.1 ≠ [] → m s = .ok s' → s'.1.tail = s.1.tail ∧ s'.1.length = s.1.length ∧ s'.2.length = s.2.length + n ∧ cy s'.1 ≤ cy s.1 + n
theorem WtL.st {m : CS → CR CS} {n : Nat} (h : WtL m n) : StL m n := fun s s' _ e => by
 obtain ⟨h1, h2⟩ := h s s' e
 rw [h1]; exact ⟨rfl, rfl, h2, by omega⟩
theorem StL.comp {m m' : CS → CR CS} {n k j : Nat} (h : StL m n) (h' : StL m' k) (e : n + k = j) : StL (fun s => CR.bind (m s) m') j := by
 intro s s' hs e'
 obtain ⟨s1, h1, h2⟩ := bb e'
 obtain ⟨a1, a2, a3, a4⟩ := h s s1 hs h1
 have aY : s1.1 ≠ [] := by intro e0; rw [e0] at a2; exact hs (List.length_eq_zero_iff.1 a2.symm)
 obtain ⟨b1, b2, b3, b4⟩ := h' s1 s' aY h2
 exact ⟨b1.trans a1, b2.trans a2, by omega, by omega⟩
theorem StL.take {m : CS → CR CS} {n : Nat} (h : StL m n) : StL (fun s => m (ao s)) (1 + n) := by
 intro s s' hs e
 obtain ⟨b1, b2, b3, b4⟩ := h (ao s) s' hs e
 have := b5 s
 have e1 : (ao s).1 = s.1 := rfl
 rw [e1] at b1 b2 b4
 exact ⟨b1, b2, by omega, by omega⟩
theorem StL.forN {f : Nat → CS → CR CS} {g : Nat → Nat} {n : Nat} (h : ∀ i, i < n → StL (f i) (g i)) : ∀ {k : Nat}, k ≤ n → StL (forN f k) (ag g k)
 |0, _, s, s', _, e => by injection e with e; subst e; exact ⟨rfl, rfl, rfl, Nat.le_add_right _ _⟩
 |k + 1, hk, s, s', hs, e => (StL.forN h (Nat.le_of_succ_le hk)).comp (h k hk) rfl s s' hs e
theorem StL.within {m : CS → CR CS} {n : Nat} (h : StL m n) (l : List (ByteArray × Int)) (hl : l.length ≤ 1) : WtL (within l m) n := by
 intro s s' e
 obtain ⟨s1, h1, h2⟩ := bb e
 injection h2 with h2; subst h2
 obtain ⟨b1, b2, b3, b4⟩ := h (l :: s.1, s.2) s1 (by simp) h1
 exact ⟨b1, b3⟩
theorem ou {g : Nat → Nat} : ag g 1 = g 0 := by simp [ag]
theorem A8 (F : Nd) {T : Nd} (h : T.kind ≠ 0) : iB F T = ⟨stM F T.kind T.name T.len (fun i => (T.kids i).num) (fun i => ll F (T.kids i)) (fun i => iB F (T.kids i)), tc T.len (fun i => (iB F (T.kids i)).st), I2 T.num T.name T.len (fun i => ll F (T.kids i)) (fun i => iB F (T.kids i))⟩ := by
 cases T with
 |nil => exact absurd rfl h
 |mk => rfl
theorem gl (F : Nd) {T : Nd} (h : T.kind ≠ 0) : (iB F T).st = stM F T.kind T.name T.len (fun i => (T.kids i).num) (fun i => ll F (T.kids i)) (fun i => iB F (T.kids i)) := by rw [A8 F h]
theorem p8 (F : Nd) {T : Nd} (h : T.kind ≠ 0) : (iB F T).sts = tc T.len (fun i => (iB F (T.kids i)).st) := by rw [A8 F h]
theorem vt (F : Nd) {T : Nd} (h : T.kind ≠ 0) : (iB F T).cs = I2 T.num T.name T.len (fun i => ll F (T.kids i)) (fun i => iB F (T.kids i)) := by rw [A8 F h]
structure MnL (F T : Nd) : Prop where
 st : T.sOk = true → ∀ cx, StL ((iB F T).st cx) T.size
 sts : T.sOk = true → T.kind = 4 → ∀ cx, StL ((iB F T).sts cx) T.size
 cs : T.cOk = true → ∀ b cx, StL ((iB F T).cs b cx) T.size
theorem StL.err {e : CS → Int × Nat} {n : Nat} : StL (fun s => .error (e s)) n := fun s s' _ h => by cases h
theorem StL.ite {c : CS → Prop} [∀ s, Decidable (c s)] {a b : CS → CR CS} {n : Nat} (ha : StL a n) (hb : StL b n) : StL (fun s => if c s then a s else b s) n := by
 intro s s' hs e
 dsimp only at e
 split at e
 ·exact ha s s' hs e
 ·exact hb s s' hs e
theorem StL.ok0 : StL (fun s => .ok (ao s)) 1 := by
 intro s s' hs e
 injection e with e; subst e
 exact ⟨rfl, rfl, b5 s, Nat.le_add_right _ _⟩
theorem Ny (F T : Nd) (ih : ∀ i, i < T.len → MnL F (T.kids i)) : MnL F T := by
 have hz := T.size_eq
 have hE : ∀ i, i < T.len → (T.kids i).eOk = true → ExL (ll F (T.kids i)) (T.kids i).size := fun i hi h => pK F _ h
 have zy : T.sOk = true → T.kind = 4 → ∀ cx, StL ((iB F T).sts cx) T.size := by
  intro ax h4 cx
  rw [p8 F (by omega), hz]
  exact (StL.forN (fun i hi => (ih i hi).st (FW h4 ax i hi) cx) lr).take
 refine ⟨?_, zy, ?_⟩
 ·intro ax cx
  have Mu := Cg ax
  rw [gl F (by omega)]
  have qT : T.kind = 4 → StL ((iB F T).sts cx) T.size := fun h => zy ax h cx
  intro s s' hs e
  unfold stM at e
  by_cases h4 : T.kind = 4
  ·rw [if_pos h4] at e
   have := qT h4
   rw [p8 F (by omega)] at this
   exact (this.within [] (by simp)).st s s' hs e
  rw [if_neg h4] at e
  by_cases h5 : T.kind = 5
  ·rw [if_pos h5] at e
   obtain ⟨hl, he⟩ := sB (.inl h5) ax
   rw [hl, ou] at hz
   obtain ⟨r, h1, h2⟩ := bb e
   obtain ⟨a1, a2⟩ := (hE 0 (by omega) he).value _ _ _ h1
   have ht := b5 s
   have PZ : (ao s).1 = s.1 := rfl
   split at h2
   ·cases h2
   ·injection h2 with h2; subst h2
    rw [PZ] at a1
    obtain ⟨p1, p2, p3⟩ := qd (E := r.2.1) (by rw [a1]; exact hs) T.name r.1
    refine ⟨by rw [p1, a1], by rw [p2, a1], by show r.2.2.length = _; omega, ?_⟩
    show cy (lN r.2.1 T.name r.1) ≤ _
    rw [p3, a1]; omega
  rw [if_neg h5] at e
  by_cases h6 : T.kind = 6
  ·rw [if_pos h6] at e
   obtain ⟨hl, he⟩ := sB (.inr (.inl h6)) ax
   rw [hl, ou] at hz
   split at e
   ·cases e
   ·exact bB4
  rw [if_neg h6] at e
  by_cases h7 : T.kind = 7
  ·rw [if_pos h7] at e
   have hl := xS (.inl h7) ax
   rw [hl] at hz; simp only [ag] at hz
   split at e
   ·cases e
   split at e
   ·rw [hz]; exact StL.ok0 s s' hs e
   ·cases e
  rw [if_neg h7] at e
  by_cases h8 : T.kind = 8
  ·rw [if_pos h8] at e
   obtain ⟨hl, lj, rL⟩ := QX h8 ax
   rw [hl] at hz; simp only [ag] at hz
   rw [hz]
   exact (((hE 0 (by omega) lj).want _).st.comp ((hE 1 (by omega) rL).want _).st (by omega : _ = 0 + (T.kids 0).size + (T.kids 1).size)).take s s' hs e
  rw [if_neg h8] at e
  by_cases h9 : T.kind = 9 ∨ T.kind = 13 ∨ T.kind = 14
  ·rw [if_pos h9] at e
   obtain ⟨hl, he⟩ := sB (by omega) ax
   rw [hl, ou] at hz
   obtain ⟨r, h1, h2⟩ := bb e
   injection h2 with h2; subst h2
   obtain ⟨a1, a2⟩ := hE 0 (by omega) he _ _ _ h1
   exact bB2
  rw [if_neg h9] at e
  by_cases lA : T.kind = 10
  ·rw [if_pos lA] at e
   obtain ⟨hl, lj, hb1, hb2⟩ := L3 lA ax
   have hk : ∀ i, i < T.len - 1 → StL ((iB F (T.kids (i + 1))).st cx) (T.kids (i + 1)).size := by
    intro i hi
    have : i = 0 ∨ i = 1 := by omega
    rcases this with rfl | rfl
    ·exact (ih 1 (by omega)).st hb1.2 cx
    ·exact (ih 2 (by omega)).st (hb2 (by omega)).2 cx
   have oz : 1 + ((T.kids 0).size + ag (fun i => (T.kids (i + 1)).size) (T.len - 1)) = T.size := by
    rw [hz]
    rcases hl with hl | hl <;> rw [hl] <;> simp [ag] <;> omega
   rw [← oz]
   exact (((hE 0 (by omega) lj).want _).st.comp (StL.forN hk lr) rfl).take s s' hs e
  rw [if_neg lA] at e
  by_cases rM : T.kind = 11
  ·rw [if_pos rM] at e
   rcases L2 rM ax with ⟨hl, zL, hb⟩ | ⟨hl, he, hb⟩
   ·rw [hl] at hz e; simp only [ag] at hz
    rw [if_neg (by omega)] at e
    have := (ih 0 (by omega)).st hb { cx with loops := cx.loops + 1, outs := cx.outs + 1 }
    rw [hz, Nat.zero_add]
    exact this.take s s' hs e
   ·rw [hl] at hz e; simp only [ag] at hz
    rw [if_pos rfl] at e
    have := (ih 1 (by omega)).st hb.2 { cx with loops := cx.loops + 1, outs := cx.outs + 1 }
    rw [hz]
    exact (((hE 0 (by omega) he).want _).st.comp this (by omega : _ = 0 + (T.kids 0).size + (T.kids 1).size)).take s s' hs e
  rw [if_neg rM] at e
  by_cases tM : T.kind = 12
  ·rw [if_pos tM] at e
   split at e
   ·rcases L1 tM ax with hl | ⟨hl, he⟩
    ·rw [hl] at hz e; simp only [ag] at hz
     rw [if_neg (by omega)] at e
     rw [hz]; exact StL.ok0 s s' hs e
    ·rw [hl, ou] at hz
     rw [if_pos (by omega)] at e
     exact bB4
   ·cases e
  rw [if_neg tM] at e
  by_cases vN : T.kind = 15
  ·rw [if_pos vN] at e
   rw [hz]
   exact (StL.forN (g := fun i => (T.kids i).size) (fun i hi => (ih i hi).cs (L0 vN ax i hi) _ _) lr).take s s' hs e
  rw [if_neg vN] at e
  by_cases wb : T.kind = 17
  ·rw [if_pos wb] at e
   have hl := xS (.inr (.inl wb)) ax
   rw [hl] at hz; simp only [ag] at hz
   split at e
   ·cases e
   ·rw [hz]; exact StL.ok0 s s' hs e
  rw [if_neg wb] at e
  by_cases AD : T.kind = 18
  ·rw [if_pos AD] at e
   have hl := xS (.inr (.inr AD)) ax
   rw [hl] at hz; simp only [ag] at hz
   split at e
   ·cases e
   ·rw [hz]; exact StL.ok0 s s' hs e
  rw [if_neg AD] at e
  have hone : T.kind = 19 ∨ T.kind = 20 ∨ T.kind = 21 := by omega
  obtain ⟨hl, he⟩ := sB (by omega) ax
  rw [hl, ou] at hz
  by_cases AC : T.kind = 19
  ·rw [if_pos AC] at e
   exact bB4
  rw [if_neg AC] at e
  by_cases AB : T.kind = 20
  ·rw [if_pos AB] at e
   obtain ⟨r, h1, h2⟩ := bb e
   split at h2
   ·cases h2
   injection h2 with h2; subst h2
   obtain ⟨a1, a2⟩ := (hE 0 (by omega) he).value _ _ _ h1
   exact bB2
  rw [if_neg AB, if_pos (by omega)] at e
  exact bB4
 ·intro ax b cx
  obtain ⟨hk, hn, zT, hbo⟩ := MU ax
  rw [vt F (by omega)]
  intro s s' hs e
  unfold I2 at e
  split at e
  ·cases e
  have hlast : WtL (within (if az T.name then [] else [(T.name, 1)]) ((iB F (T.kids (T.len - 1))).sts cx)) (T.kids (T.len - 1)).size := by
   refine ((ih (T.len - 1) (by rcases hn with h | h | h <;> omega)).sts hbo zT cx).within _ ?_
   split <;> simp
  rcases hn with ⟨h0, hl⟩ | ⟨h1, hl, he⟩ | ⟨h2, hl, lj, rL⟩
  ·rw [hl] at hz hlast e; simp only [ag] at hz
   rw [if_neg (by omega)] at e
   simp only [CR.bind_ok] at e
   rw [if_neg (by omega)] at e
   rw [hz, Nat.zero_add]
   exact hlast.st.take s s' hs e
  ·rw [hl] at hz hlast e; simp only [ag] at hz
   rw [if_pos (by omega)] at e
   obtain ⟨s1, h3, h4⟩ := bb e
   rw [if_neg (by omega)] at h4
   rw [hz]
   refine (((hE 0 (by omega) he).want 3).st.comp hlast.st (by simp : _ = 0 + (T.kids 0).size + (T.kids 1).size)).take s s' hs ?_
   dsimp only
   rw [h3]; exact h4
  ·rw [hl] at hz hlast e; simp only [ag] at hz
   rw [if_pos (by omega)] at e
   obtain ⟨s1, h3, h4⟩ := bb e
   rw [if_pos h2] at h4
   rw [hz]
   refine (((hE 0 (by omega) lj).want 3).st.comp (((hE 1 (by omega) rL).want 1).st.comp hlast.st rfl) (by simp; omega : _ = 0 + (T.kids 0).size + (T.kids 1).size + (T.kids 2).size)).take s s' hs ?_
   dsimp only
   rw [h3]; exact h4
theorem yb (F : Nd) : ∀ T : Nd, MnL F T := by
 intro T
 induction T with
 |nil => exact ⟨fun h => by simp [Nd.sOk, A2] at h, fun h => by simp [Nd.sOk, A2] at h, fun h => by simp [Nd.cOk, A2] at h⟩
 |mk k n s len kids ih => exact Ny F _ fun i _ => ih i
theorem pV (g j : Nat) : (⟨g, 0, none⟩ : Addr).add j = ⟨g, j, none⟩ := by
 unfold Addr.add
 split
 ·rename_i h; subst h; rfl
 ·simp
theorem ry {w w' : World} {base : Nat} {e : TypeId} {size n : Nat} {v : Value} {xs : List Value} (h : w.ownsRow base e size v n xs) (hb : ∀ k, v.ownBlock = some k → w'.heap[k]? = w.heap[k]?) : w'.ownsRow base e size v n xs := by
 refine ⟨h.1, ?_⟩
 rcases h.2 with h | ⟨g, cap, cur, rfl, h2, h3, h4⟩
 ·exact .inl h
 ·exact .inr ⟨g, cap, cur, rfl, h2, (hb g rfl).trans h3, h4⟩
structure Kept (S : Nat → Prop) (w w' : World) : Prop where
 os : w'.os = w.os
 tape : w'.tape = w.tape
 output : w'.output = w.output
 size : w.heap.size ≤ w'.heap.size
 block : ∀ k, k < w.heap.size → ¬ S k → w'.heap[k]? = w.heap[k]?
theorem Kept.refl (S : Nat → Prop) (w : World) : Kept S w w := ⟨rfl, rfl, rfl, Nat.le_refl _, fun _ _ _ => rfl⟩
theorem Kept.trans {S S' : Nat → Prop} {a b c : World} (h : Kept S a b) (k : Kept S' b c) (hs : ∀ i, i < a.heap.size → S' i → S i) : Kept S a c :=
 ⟨k.os.trans h.os, k.tape.trans h.tape, k.output.trans h.output, Nat.le_trans h.size k.size, fun i hi hn => (k.block i (Nat.lt_of_lt_of_le hi h.size) (fun h' => hn (hs i hi h'))).trans (h.block i hi hn)⟩
theorem b7 {w w' : World} (h : Below w.heap.size w w') (S : Nat → Prop) : Kept S w w' := ⟨h.os, h.tape, h.output, h.size, fun k hk _ => h.block k hk⟩
theorem Kept.below {S : Nat → Prop} {w w' : World} (h : Kept S w w') {B : Nat} (hB : B ≤ w.heap.size) (hS : ∀ k, S k → B ≤ k) : Below B w w' :=
 ⟨h.os, h.tape, h.output, h.size, fun k hk => h.block k (by omega) (fun hs => by have := hS k hs; omega)⟩
theorem Kept.setCell {S : Nat → Prop} {w : World} (a : Addr) (v : Value) (hs : S a.block) : Kept S w (w.setCell a v) :=
 ⟨by simp [World.setCell], by simp [World.setCell], by simp [World.setCell], by simp [World.setCell], fun k _ hn => Below.heap_setCell w a v k (fun e => hn (e ▸ hs))⟩
theorem Kept.grown {S : Nat → Prop} {w w' : World} {own : Option Nat} (h : w.grownBy w' own) (hs : ∀ k, own = some k → S k) : Kept S w w' :=
 ⟨h.os, h.tape, h.output, h.size, fun k hk hn => h.block k hk (fun e => hn (hs k e.symm))⟩
structure SK where
 cb : Nat
 tb : Nat
 lo : Nat
 up : Nat
 N : Nat
 F : Nd
 fv : Value
structure SK.Ok (K : SK) : Prop where
 cl : K.lo ≤ K.cb
 tl : K.lo ≤ K.tb
 cu : K.cb < K.up
 tu : K.tb < K.up
 ne : K.cb ≠ K.tb
 few : K.N ≤ 1048576
 tight : K.up ≤ K.cb + 1 ∨ K.up ≤ K.tb + 1
abbrev Vr := ByteArray × Int × Nat
def kY : List Vr → List Value
 |[] => []
 |v :: l => .string v.1 :: .int .i64 v.2.1 :: .int .i64 v.2.2 :: kY l
theorem yp (a b : List Vr) : kY (a ++ b) = kY a ++ kY b := by
 induction a with
 |nil => rfl
 |cons v a ih => simp [kY, ih]
def varsOf : Sc → List Vr
 |[] => []
 |l :: E => varsOf E ++ l.reverse.map fun p => (p.1, p.2, E.length + 1)
theorem tY (E : Sc) : (varsOf E).length = cy E := by
 induction E with
 |nil => rfl
 |cons l E ih => simp [varsOf, cy, ih]; unfold cy at ih; simp at ih ⊢; omega
def SK.cells (K : SK) (vv : Value) (code place deep ret loops outs : Int) : Array Value :=
 #[.int .i64 K.F.kind, .int .i64 K.F.num, .string K.F.name, K.fv, .slice (some ⟨K.tb, 0, none⟩) K.N K.N, .int .i64 code, .int .i64 place, vv, .int .i64 deep, .int .i64 ret, .int .i64 loops, .int .i64 outs]
structure SRaw (K : SK) (w : World) (vv : Value) (code place deep ret loops outs : Int) (zs : List Int) (vs : List Vr) : Prop where
 blk : w.heap[K.cb]? = some (.cells (K.cells vv code place deep ret loops outs) 70 (0, 0))
 typ : w.heap[K.tb]? = some (.cells (zs.map (Value.int .i64)).toArray 3 (0, 0))
 len : zs.length = K.N
 var : w.ownsRow K.up 83 3 vv vs.length (kY vs)
def SIs (K : SK) : CR CS → Int → Int → Int → List Int → List Vr → Prop
 |.ok s, code, place, deep, zs, vs => code = 0 ∧ place = 0 ∧ deep = s.1.length ∧ zs = s.2 ++ List.replicate (K.N - s.2.length) 0 ∧ s.2.length ≤ K.N ∧ vs = varsOf s.1 ∧ cy s.1 ≤ s.2.length ∧ s.1.length ≤ s.2.length + 1
 |.error e, code, place, _, _, _ => code = e.1 ∧ e.1 ≠ 0 ∧ place = (e.2 : Int)
def SK.S (K : SK) (own : Option Nat) : Nat → Prop := fun k => k = K.cb ∨ k = K.tb ∨ some k = own
structure SS (K : SK) (w0 : World) (ah : Option Nat) (σ : CR CS) (ret loops outs : Int) (w : World) : Prop where
 ok : K.Ok
 is : ∃ vv code place deep zs vs, SRaw K w vv code place deep ret loops outs zs vs ∧ SIs K σ code place deep zs vs ∧ (vv.ownBlock = ah ∨ ∃ k, vv.ownBlock = some k ∧ w0.heap.size ≤ k)
 kept : Kept (K.S ah) w0 w
theorem SRaw.lt {K : SK} {w : World} {vv : Value} {code place deep ret loops outs : Int} {zs : List Int} {vs : List Vr} (h : SRaw K w vv code place deep ret loops outs zs vs) : K.cb < w.heap.size ∧ K.tb < w.heap.size :=
 ⟨(Array.getElem?_eq_some_iff.1 h.blk).1, (Array.getElem?_eq_some_iff.1 h.typ).1⟩
theorem SRaw.room {K : SK} (hK : K.Ok) {w : World} {vv : Value} {code place deep ret loops outs : Int} {zs : List Int} {vs : List Vr} (h : SRaw K w vv code place deep ret loops outs zs vs) : K.up ≤ w.heap.size := by
 have := h.lt; have := hK.tight; omega
theorem SS.lt {K : SK} {w0 : World} {ah : Option Nat} {σ : CR CS} {ret loops outs : Int} {w : World} (h : SS K w0 ah σ ret loops outs w) : K.cb < w.heap.size ∧ K.tb < w.heap.size := by
 obtain ⟨vv, code, place, deep, zs, vs, h1, _⟩ := h.is; exact h1.lt
theorem SRaw.calm {K : SK} {w w' : World} {vv : Value} {code place deep ret loops outs : Int} {zs : List Int} {vs : List Vr} (h : SRaw K w vv code place deep ret loops outs zs vs) (hb : Below w.heap.size w w') : SRaw K w' vv code place deep ret loops outs zs vs :=
 ⟨(hb.block _ h.lt.1).trans h.blk, (hb.block _ h.lt.2).trans h.typ, h.len, ry h.var fun k hk => hb.block k (h.var.lt k hk).2⟩
theorem SS.calm {K : SK} {w0 : World} {ah : Option Nat} {σ : CR CS} {ret loops outs : Int} {w w' : World} (h : SS K w0 ah σ ret loops outs w) (hb : Below w.heap.size w w') : SS K w0 ah σ ret loops outs w' := by
 obtain ⟨vv, code, place, deep, zs, vs, h1, h2, h3⟩ := h.is
 exact ⟨h.ok, ⟨vv, code, place, deep, zs, vs, h1.calm hb, h2, h3⟩, h.kept.trans (b7 hb (K.S ah)) (fun _ _ h => h)⟩
theorem SS.alloc {K : SK} {w0 : World} {ah : Option Nat} {σ : CR CS} {ret loops outs : Int} {w : World} (h : SS K w0 ah σ ret loops outs w) (o : Obj) : SS K w0 ah σ ret loops outs (w.alloc o) :=
 h.calm (bA)
theorem SS.drew {K : SK} {w0 : World} {ah : Option Nat} {σ : CR CS} {ret loops outs : Int} {w : World} (h : SS K w0 ah σ ret loops outs w) : SS K w0 ah σ ret loops outs w.drew :=
 h.calm ⟨rfl, rfl, rfl, Nat.le_refl _, fun _ _ => rfl⟩
theorem SS.restart {K : SK} {w0 : World} {ah : Option Nat} {σ : CR CS} {ret loops outs : Int} {w : World} (h : SS K w0 ah σ ret loops outs w) :
  ∃ own, SS K w own σ ret loops outs w ∧ (∀ k, own = some k → K.up ≤ k ∧ k < w.heap.size) ∧ (own = ah ∨ ∃ k, own = some k ∧ w0.heap.size ≤ k) ∧
   ∀ σ' r' l' o' w', SS K w own σ' r' l' o' w' → SS K w0 ah σ' r' l' o' w' := by
 obtain ⟨vv, code, place, deep, zs, vs, h1, h2, h3⟩ := h.is
 have hk := h.kept
 have N6 := hk.size
 refine ⟨vv.ownBlock, ⟨h.ok, ⟨vv, code, place, deep, zs, vs, h1, h2, .inl rfl⟩, Kept.refl _ _⟩, h1.var.lt, h3, ?_⟩
 intro σ' r' l' o' w' h'
 obtain ⟨Nh, code', place', deep', zs', vs', k1, k2, k3⟩ := h'.is
 refine ⟨h.ok, ⟨Nh, code', place', deep', zs', vs', k1, k2, ?_⟩, hk.trans h'.kept ?_⟩
 ·rcases k3 with e | ⟨k, e, hk⟩
  ·rw [e]; exact h3
  ·exact .inr ⟨k, e, by omega⟩
 ·rintro i hi (e | e | e)
  ·exact .inl e
  ·exact .inr (.inl e)
  ·rcases h3 with e3 | ⟨k, e3, hk⟩
   ·exact .inr (.inr (e.trans e3))
   ·rw [e3] at e; injection e with e; omega
theorem SS.keep {K : SK} {w0 : World} {ah : Option Nat} {σ : CR CS} {ret loops outs : Int} {w : World} (h : SS K w0 ah σ ret loops outs w) {k : Nat} (hk : k < w0.heap.size) (h1 : k ≠ K.cb) (h2 : k ≠ K.tb) (h3 : some k ≠ ah) : w.heap[k]? = w0.heap[k]? :=
 h.kept.block k hk (by rintro (e | e | e) <;> contradiction)
theorem SS.below {K : SK} {w0 : World} {ah : Option Nat} {σ : CR CS} {ret loops outs : Int} {w : World} (h : SS K w0 ah σ ret loops outs w) (h0 : K.lo ≤ w0.heap.size) (ho : ∀ k, ah = some k → K.lo ≤ k) : Below K.lo w0 w :=
 h.kept.below h0 (by rintro k (e | e | e); have := h.ok.cl; omega; have := h.ok.tl; omega; exact ho k e.symm)
theorem SRaw.cells {K : SK} {w : World} {vv : Value} {code place deep ret loops outs : Int} {zs : List Int} {vs : List Vr} (h : SRaw K w vv code place deep ret loops outs zs vs) :
  w.cell? ⟨K.cb, 0, none⟩ = some (.int .i64 K.F.kind) ∧ w.cell? ⟨K.cb, 1, none⟩ = some (.int .i64 K.F.num) ∧ w.cell? ⟨K.cb, 2, none⟩ = some (.string K.F.name) ∧ w.cell? ⟨K.cb, 3, none⟩ = some K.fv ∧
  w.cell? ⟨K.cb, 4, none⟩ = some (.slice (some ⟨K.tb, 0, none⟩) K.N K.N) ∧ w.cell? ⟨K.cb, 5, none⟩ = some (.int .i64 code) ∧ w.cell? ⟨K.cb, 6, none⟩ = some (.int .i64 place) ∧ w.cell? ⟨K.cb, 7, none⟩ = some vv ∧
  w.cell? ⟨K.cb, 8, none⟩ = some (.int .i64 deep) ∧ w.cell? ⟨K.cb, 9, none⟩ = some (.int .i64 ret) ∧ w.cell? ⟨K.cb, 10, none⟩ = some (.int .i64 loops) ∧ w.cell? ⟨K.cb, 11, none⟩ = some (.int .i64 outs) := by
 have := h.blk
 refine ⟨?_, ?_, ?_, ?_, ?_, ?_, ?_, ?_, ?_, ?_, ?_, ?_⟩ <;> simp [World.cell?, this, SK.cells]
theorem SRaw.free {K : SK} {w : World} {vv : Value} {code place deep ret loops outs : Int} {zs : List Int} {vs : List Vr} (h : SRaw K w vv code place deep ret loops outs zs vs) (i : Nat) : w.frozen? ⟨K.cb, i, none⟩ = false := frozen_of_row w K.cb i _ _ h.blk
theorem SRaw.slice {K : SK} {w : World} {vv : Value} {code place deep ret loops outs : Int} {zs : List Int} {vs : List Vr} (h : SRaw K w vv code place deep ret loops outs zs vs) : ∃ a c, vv = .slice a vs.length c ∧ (vs.length : Int) ≤ c := by
 rcases h.var.2 with ⟨rfl, e⟩ | ⟨g, cap, cur, rfl, _, _, h4, _⟩
 ·exact ⟨none, 0, by rw [e], by rw [e]; simp⟩
 ·exact ⟨_, _, rfl, by omega⟩
theorem SRaw.set {K : SK} (hK : K.Ok) {w : World} {vv : Value} {code place deep ret loops outs code' place' deep' ret' loops' outs' : Int} {zs : List Int} {vs : List Vr} (h : SRaw K w vv code place deep ret loops outs zs vs) {i : Nat} {u : Value}
  (e : (K.cells vv code place deep ret loops outs).set! i u = K.cells vv code' place' deep' ret' loops' outs') : SRaw K (w.setCell ⟨K.cb, i, none⟩ u) vv code' place' deep' ret' loops' outs' zs vs := by
 refine ⟨?_, ?_, h.len, ownsRow_setCell_below h.var (show K.cb < K.up from hK.cu) u⟩
 ·rw [heap_setCell_same w K.cb i _ _ u h.blk, ← e]
  simp
 ·rw [Below.heap_setCell w ⟨K.cb, i, none⟩ u K.tb (fun e => hK.ne e.symm)]; exact h.typ
def Am (T : Nd) : Prop := ∀ (w : World) (v : Value) (hi : Nat), T.Fine → hi ≤ w.heap.size → Row 0 hi w T v → T.cost ≤ 1048576 →
 Calls Tryd.prog 49 #[T.val v] w fun e w' => e = .returned (.int .i64 (T.size : Int)) ∧ Below w.heap.size w w'
theorem uO (T : Nd) (ih : ∀ i, i < T.len → Am (T.kids i)) : Am T := by
 intro w v hi hf gW hr ny
 have hn := T.fine_len hf
 have hz := T.size_cost
 have hze := T.size_eq
 have MD : ∀ j, j < T.len → (T.kids j).cost ≤ 1048576 := fun j hj => Nat.le_trans (T.cost_kid hj) ny
 obtain ⟨a, cap, rfl, bQ, hq⟩ := ar.1 hr
 clear bQ
 have HI := aa ih
 have HF := aa hf
 have HR := aa hq
 have HK := aa MD
 clear hr hf ih hq MD
 have aF : ∀ j, j < T.len → ag (fun i => (T.kids i).size) j + (T.kids j).size ≤ ag (fun i => (T.kids i).size) T.len := fun j hj => nj _ hj
 have gS : ∀ j, ag (fun i => (T.kids i).size) (j + 1) = ag (fun i => (T.kids i).size) j + (T.kids j).size := fun j => rfl
 have h00 : ag (fun i => (T.kids i).size) 0 = 0 := rfl
 generalize ag (fun i => (T.kids i).size) = S at *
 have Pr := aa aF
 have po := aa gS
 clear aF gS
 unfold Nd.val
 generalize T.kind = tk
 generalize T.num = tn
 generalize T.name = ts
 have HB : ∀ a : Obj, Hid (Below w.heap.size w (w.alloc a)) := fun a => bA
 go_enter Tryd.func49, Tryd.ntmps49
 go_wp2
 go_loopw [3, 4] (fun k i wr => ∃ (j : Nat), j ≤ T.len ∧ i = .int .i64 j ∧ k = .int .i64 ((1 + S j : Nat) : Int) ∧ Below (w.heap.size + 1) (w.alloc (.cells #[.int .i64 tk, .int .i64 tn, .string ts, .slice a T.len cap] 27)) wr) (fun _ i _ => T.len - (intOf i).toNat)
 case atStart => exact ⟨0, by omega, rfl, by simp [h00], Below.refl _ _⟩
 case round =>
  obtain ⟨j, hj, rfl, rfl, hb⟩ := hrel
  have k3 : wr.cell? ⟨w.heap.size, 3, none⟩ = some (.slice a T.len cap) := by
   rw [hb.cell (p := ⟨w.heap.size, 3, none⟩) (by show w.heap.size < _; omega)]; simp
  have kU := (HB (.cells #[.int .i64 tk, .int .i64 tn, .string ts, .slice a T.len cap] 27)).out.trans (hb.mono (by omega))
  have zR := kU.size
  by_cases bm : j < T.len
  ·rcases HR.out with h0 | ⟨g, off, rfl, h1, h2, h3⟩
   ·omega
   obtain ⟨u, e0, e1, e2, e3, hu⟩ := h3 j bm
   have tf : g < w.heap.size := by omega
   rw [← kU.cell (p := ⟨g, _, none⟩) tf] at e0 e1 e2 e3
   have HU := aa (ae kU gW hu)
   have h1' := Pr.out j bm
   have MO := po.out j
   have hkc := HK.out j bm
   have HC := HI.out j bm
   have vR := aa (Nd.fine_kid HF.out bm)
   unfold Am Nd.val at HC
   have AG := aa HC
   clear h3 HC hu
   generalize T.kids j = K at *
   go_wp2_with (go_at_call 49; refine (AG.out _ _ hi vR.out (by omega) HU.out (by omega)).mono ?_; rintro e w1 ⟨rfl, hb1⟩)
   have qi : w.heap.size + 1 ≤ wr.heap.size := by have := hb.size; simpa using this
   exact ⟨⟨j + 1, by omega, by go_num, by rw [MO]; congr 1; omega, hb.trans (hb1.mono qi)⟩, by simp [intOf]; omega⟩
  ·go_wp2
   go_ret
   obtain rfl : j = T.len := by omega
   exact ⟨nn (by omega), kU⟩
theorem Cq (T : Nd) : Am T := by
 induction T with
 |nil => exact uO _ fun i hi => absurd hi (Nat.not_lt_zero i)
 |mk k n s len kids ih => exact uO _ fun i _ => ih i
def LX (w : World) (lo : Nat) (v : Value) (n : Nat) (f : Nat → Int) : Prop :=
 ∃ a cap, v = .slice a n cap ∧ n ≤ cap ∧ cap ≤ 9223372036854775807 ∧ (n = 0 ∨ ∃ g off, a = some ⟨g, off, none⟩ ∧ lo ≤ g ∧ g < w.heap.size ∧ ∀ i, i < n → w.cell? ⟨g, off + i, none⟩ = some (.int .i64 (f i)))
def aP (T : Nd) (at' : Nat) (i : Nat) : Nat := at' + 1 + ag (fun j => (T.kids j).size) i
theorem tK (T : Nd) (at' : Nat) : aP T at' 0 = at' + 1 := rfl
theorem iC (T : Nd) (at' i : Nat) : aP T at' (i + 1) = aP T at' i + (T.kids i).size := by simp only [aP, ag]; omega
theorem qg (T : Nd) (at' : Nat) : aP T at' T.len = at' + T.size := by unfold aP; rw [T.size_eq]; omega
theorem ib (T : Nd) (at' : Nat) {i : Nat} (h : i < T.len) : aP T at' i + (T.kids i).size ≤ at' + T.size := by
 rw [← qg T at']; have := nj (fun j => (T.kids j).size) h; unfold aP; omega
def rF (T : Nd) (at' : Nat) : Nat → List Int
 |0 => []
 |n + 1 => rF T at' n ++ [(aP T at' n : Int)]
theorem qe (T : Nd) (at' n : Nat) : (rF T at' n).length = n := by
 induction n with
 |zero => rfl
 |succ n ih => simp [rF, ih]
theorem zt (T : Nd) (at' : Nat) : ∀ {n i : Nat}, i < n → (rF T at' n)[i]? = some (aP T at' i : Int)
 |n + 1, i, h => by
  simp only [rF]
  by_cases e : i < n
  ·rw [List.getElem?_append_left (by rw [qe]; exact e)]; exact zt T at' e
  ·obtain rfl : i = n := by omega
   rw [List.getElem?_append_right (by rw [qe]; exact Nat.le_refl _), qe]; simp
theorem Mc : (Tryd.prog.info? 3).map (fun i => (i.zero, i.size, i.bytes)) = some (some (.int .i64 0), 1, 8) := by kernel_rfl
theorem Lo {W w : World} {lo : Nat} {v : Value} {n : Nat} {xs : List Int} (h : w.ownsRow lo 3 1 v n (xs.map (Value.int .i64))) (f : Nat → Int) (hx : ∀ i, i < n → xs[i]? = some (f i)) : LX w lo v n f := by
 have hc := h
 rcases h.2 with ⟨rfl, e⟩ | ⟨g, cap, cur, rfl, h2, h3, h4, h5, h6⟩
 ·exact ⟨none, 0, by rw [e], by omega, by omega, .inl e⟩
 ·refine ⟨_, cap, rfl, h4, by unfold maxLen at h5; omega, .inr ⟨g, 0, rfl, h2, (Array.getElem?_eq_some_iff.1 h3).1, fun i hi => ?_⟩⟩
  have := hc.cells (g := g) rfl i (.int .i64 (f i)) (by rw [List.getElem?_map, hx i hi]; rfl)
  rw [pV] at this
  rw [Nat.zero_add]; exact this
theorem ly (T : Nd) (w : World) (v : Value) (hi at' : Nat) (hf : T.Fine) (gW : hi ≤ w.heap.size) (hr : Row 0 hi w T v) (ny : T.cost ≤ 1048576) (KF : at' ≤ 1099511627776) :
    Calls Tryd.prog 50 #[T.val v, .int .i64 at'] w fun e w' => ∃ u, e = .returned u ∧ LX w' w.heap.size u T.len (fun i => (aP T at' i : Int)) ∧ Below w.heap.size w w' := by
  have hn := T.fine_len hf
  have hz := T.size_cost
  have hcz := T.cost_eq
  have MD : ∀ j, j < T.len → (T.kids j).cost ≤ 1048576 := fun j hj => Nat.le_trans (T.cost_kid hj) ny
  obtain ⟨a, cap, rfl, bQ, hq⟩ := ar.1 hr
  obtain ⟨i0, qn, qm, hZ, hQ⟩ := info_parts Mc
  have zL := tK T at'
  have Qt := aa (iC T at')
  have HKL := aa (fun i (h : i < T.len) => ib T at' h)
  have HNL := aa (qe T at')
  have HF := aa hf
  have HR := aa hq
  have HK := aa MD
  have hlen : T.len ≤ 1048576 := by omega
  have bP : T.size ≤ 1048577 := by omega
  clear hr hf hq MD bQ hcz
  unfold Nd.val
  generalize T.kind = tk
  generalize T.num = tn
  generalize T.name = ts
  go_enter Tryd.func50, Tryd.ntmps50
  go_wp2
  have pw : Hid (Below w.heap.size w (w.alloc (.cells #[.int .i64 tk, .int .i64 tn, .string ts, .slice a T.len cap] 27))) := bA
  go_loopw [1, 5, 6] (fun at1 out i wr => ∃ (j : Nat) (sa : Option Addr) (sc : Nat), j ≤ T.len ∧ i = .int .i64 j ∧ at1 = .int .i64 (aP T at' j : Nat) ∧ out = .slice sa j sc ∧ wr.ownsRow (w.heap.size + 1) 3 1 (.slice sa j sc) j ((rF T at' j).map (Value.int .i64)) ∧ Below (w.heap.size + 1) (w.alloc (.cells #[.int .i64 tk, .int .i64 tn, .string ts, .slice a T.len cap] 27)) wr) (fun _ _ i _ => T.len - (intOf i).toNat)
  case atStart =>
    refine ⟨0, _, _, by omega, rfl, by rw [zL]; rfl, rfl, ?_, ?_⟩
    · have hh := World.ownsRow_made (base := w.heap.size + 1) (e := 3) (size := 1) (w.alloc (.cells #[.int .i64 tk, .int .i64 tn, .string ts, .slice a T.len cap] 27)) #[] 0 (by simp) (by unfold maxLen; omega) (by simp)
      simpa [rF] using hh
    · refine (Below.refl _ _).alloc ?_ _
      simp
  case round =>
    obtain ⟨j, sa, sc, hj, rfl, rfl, rfl, bK, hb⟩ := hrel
    have k3 : wr.cell? ⟨w.heap.size, 3, none⟩ = some (.slice a T.len cap) := by
      rw [hb.cell (p := ⟨w.heap.size, 3, none⟩) (by show w.heap.size < _; omega)]; simp
    have qi : w.heap.size + 1 ≤ wr.heap.size := by have := hb.size; simpa using this
    have iP := aa bK
    have HB := aa hb
    clear bK hb
    by_cases bm : j < T.len
    · rcases HR.out with h0 | ⟨g, off, rfl, h1, h2, h3⟩
      · omega
      obtain ⟨u, e0, e1, e2, e3, hu⟩ := h3 j bm
      have tf : g < w.heap.size := by omega
      have h1' := HKL.out j bm
      have MO := Qt.out j
      have hkc := HK.out j bm
      have vR := aa (Nd.fine_kid HF.out bm)
      have HC := Cq (T.kids j)
      unfold Am Nd.val at HC
      have AG := aa HC
      have HU := aa hu
      have Mq : rF T at' (j + 1) = rF T at' j ++ [(aP T at' j : Int)] := rfl
      clear h3 HC hu
      have HE : Hid (w.cell? ⟨g, off + j * 4, none⟩ = some (.int .i64 (T.kids j).kind) ∧ w.cell? ⟨g, off + j * 4 + 1, none⟩ = some (.int .i64 (T.kids j).num) ∧ w.cell? ⟨g, off + j * 4 + 2, none⟩ = some (.string (T.kids j).name) ∧ w.cell? ⟨g, off + j * 4 + 3, none⟩ = some u) := ⟨e0, e1, e2, e3⟩
      clear e0 e1 e2 e3
      have HNS := aa Mq
      clear Mq
      generalize T.kids j = K at *
      generalize hk : aP T at' j = kj at *
      go_wp2_with (first
        | (at_builtin; refine wpList_append_own _ rfl _ _ 67 rfl (w.heap.size + 1) 3 i0 (.int .i64 0) 1 8 Tryd.underlying67 qn qm hZ hQ rfl (by decide) _ j _ rfl (iP.out.alloc _) ⟨wr.heap.size, 0, none⟩ 1 1 [.int .i64 (kj : Int)] rfl rfl (by intro i u hu; rcases i with _ | i <;> simp_all [Addr.add]) (by intro u hu; simp at hu; subst hu; rfl) (by unfold maxLen; omega) (by omega) (by simp; omega) ?_
           intro v' w3 gN aD nu
           have kU : Below (w.heap.size + 1) (w.alloc (.cells #[.int .i64 tk, .int .i64 tn, .string ts, .slice (some ⟨g, off, none⟩) T.len cap] 27)) w3 := (HB.out.alloc qi _).grown aD (by simp; omega) (fun k hk => ((iP.out.alloc (.cells #[.int .i64 (kj : Int)] 3)).lt k hk).1)
           have qo := pw.out.trans (kU.mono (Nat.le_succ _))
           obtain ⟨e0, e1, e2, e3⟩ := HE.out
           rw [← qo.cell (p := ⟨g, _, none⟩) tf] at e0 e1 e2 e3
           have k3 : w3.cell? ⟨w.heap.size, 3, none⟩ = some (.slice (some ⟨g, off, none⟩) T.len cap) := by
             rw [kU.cell (p := ⟨w.heap.size, 3, none⟩) (by show w.heap.size < _; omega)]; simp
           have HU3 := aa (ae qo gW HU.out)
           have HO3 := aa gN
           have PX := aa kU
           have fX := qo.size
           clear gN aD nu kU qo)
        | (go_at_call 49; refine (AG.out _ _ hi vR.out (by omega) HU3.out (by omega)).mono ?_; rintro e w1 ⟨rfl, hb1⟩))
      obtain ⟨sa', sc', rfl⟩ : ∃ sa' sc', v' = .slice sa' (j + 1) sc' := by
        rcases HO3.out.2 with ⟨rfl, h⟩ | ⟨g, cp, cur, rfl, _⟩
        · omega
        · exact ⟨_, _, rfl⟩
      have EO : w.heap.size + 1 ≤ w3.heap.size := by have := PX.out.size; simpa using this
      refine ⟨⟨j + 1, sa', sc', by omega, by go_num, by rw [MO]; go_num, rfl, ?_, PX.out.trans (hb1.mono EO)⟩, by simp [intOf]; omega⟩
      rw [HNS.out, List.map_append]
      exact ry HO3.out fun k hk => hb1.block k (HO3.out.lt k hk).2
    · go_wp2
      go_ret
      obtain rfl : j = T.len := by omega
      refine ⟨_, rfl, ?_, pw.out.trans (HB.out.mono (Nat.le_succ _))⟩
      have := Lo (W := w) iP.out (fun i => (aP T at' i : Int)) fun i hi => zt T at' hi
      obtain ⟨a1, c1, e1, e2, e3, e4⟩ := this
      refine ⟨a1, c1, e1, e2, e3, ?_⟩
      rcases e4 with h | ⟨g, off, h5, h6, h7⟩
      · exact .inl h
      · exact .inr ⟨g, off, h5, by omega, h7⟩
def Tl (σ : CR CS) (c : Int) (p : Nat) : CR CS := match σ with | .ok _ => .error (c, p) | .error e => .error e
theorem gJ {K : SK} {w0 : World} {ah : Option Nat} {σ : CR CS} {ret loops outs : Int} {w : World} (h : SS K w0 ah σ ret loops outs w) (c : Int) (hc : c ≠ 0) (p : Nat) :
  Calls Tryd.prog 52 #[.pointer (some ⟨K.cb, 0, none⟩), .int .i64 c, .int .i64 p] w fun e w' => e = .returned (.tuple #[]) ∧ SS K w0 ah (Tl σ c p) ret loops outs w' := by
 obtain ⟨vv, code, place, deep, zs, vs, h1, h2, h3⟩ := h.is
 obtain ⟨k0, k1, k2, k3, k4, k5, k6, k7, k8, k9, vL, uQ⟩ := h1.cells
 have f5 := h1.free 5
 have f6 := h1.free 6
 have HS := aa h
 have HR := aa h1
 have HI := aa h2
 have HO := aa h3
 clear h h1 h2 h3 k0 k1 k2 k3 k4 k7 k8 k9 vL uQ
 cases σ with
 |ok s =>
  have hz : code = 0 := HI.out.1
  subst hz
  go_enter Tryd.func52, Tryd.ntmps52
  go_wp2
  go_end0
  have r1 := HR.out.set HS.out.ok (i := 5) (u := .int .i64 c) (code' := c) (place' := place) (deep' := deep) (ret' := ret) (loops' := loops) (outs' := outs) rfl
  have r2 := r1.set HS.out.ok (i := 6) (u := .int .i64 p) (code' := c) (place' := p) (deep' := deep) (ret' := ret) (loops' := loops) (outs' := outs) rfl
  refine ⟨rfl, HS.out.ok, ⟨vv, c, p, deep, zs, vs, r2, ⟨rfl, hc, rfl⟩, HO.out⟩, ?_⟩
  exact (HS.out.kept.trans (Kept.setCell _ _ (.inl rfl)) (fun _ _ h => h)).trans (Kept.setCell _ _ (.inl rfl)) (fun _ _ h => h)
 |error e =>
  have hz : (code == 0) = false := bn (by rw [HI.out.1]; exact HI.out.2.1)
  go_enter Tryd.func52, Tryd.ntmps52
  go_wp2
  go_end0
  exact ⟨rfl, HS.out⟩
def nK (vs : List Vr) (i : Nat) : Vr := vs.getD i (⟨#[]⟩, 0, 0)
theorem Ac : ∀ (vs : List Vr) (i : Nat), i < vs.length → (kY vs)[i * 3]? = some (.string (nK vs i).1) ∧ (kY vs)[i * 3 + 1]? = some (.int .i64 (nK vs i).2.1) ∧ (kY vs)[i * 3 + 2]? = some (.int .i64 (nK vs i).2.2)
 |[], i, h => absurd h (Nat.not_lt_zero _)
 |v :: l, 0, _ => ⟨rfl, rfl, rfl⟩
 |v :: l, i + 1, h => by
  have e0 : (i + 1) * 3 = i * 3 + 1 + 1 + 1 := by omega
  have e1 : (i + 1) * 3 + 1 = i * 3 + 1 + 1 + 1 + 1 := by omega
  have e2 : (i + 1) * 3 + 2 = i * 3 + 2 + 1 + 1 + 1 := by omega
  rw [e1, e2, e0]
  exact Ac l i (by simpa using h)
theorem SRaw.vars {K : SK} {w : World} {vv : Value} {code place deep ret loops outs : Int} {zs : List Int} {vs : List Vr} (h : SRaw K w vv code place deep ret loops outs zs vs) :
  ∃ a cap, vv = .slice a vs.length cap ∧ vs.length ≤ cap ∧ cap ≤ 9223372036854775807 ∧ (vs.length = 0 ∨ ∃ g, a = some ⟨g, 0, none⟩ ∧ ∀ i, i < vs.length → w.cell? ⟨g, i * 3, none⟩ = some (.string (nK vs i).1) ∧ w.cell? ⟨g, i * 3 + 1, none⟩ = some (.int .i64 (nK vs i).2.1) ∧ w.cell? ⟨g, i * 3 + 2, none⟩ = some (.int .i64 (nK vs i).2.2)) := by
 have hv := h.var
 rcases h.var.2 with ⟨rfl, e⟩ | ⟨g, cap, cur, rfl, h2, h3, h4, h5, h6⟩
 ·exact ⟨none, 0, by rw [e], by rw [e]; exact Nat.le_refl _, by omega, .inl e⟩
 ·refine ⟨_, cap, rfl, h4, by unfold maxLen at h5; omega, .inr ⟨g, rfl, fun i hi => ?_⟩⟩
  have hc := hv.cells (g := g) rfl
  obtain ⟨a0, a1, a2⟩ := Ac vs i hi
  refine ⟨?_, ?_, ?_⟩
  ·rw [← pV]; exact hc _ _ a0
  ·rw [← pV]; exact hc _ _ a1
  ·rw [← pV]; exact hc _ _ a2
theorem sq {a b : ByteArray} (h : ¬ a = b) : (a.toList == b.toList) = false := by rw [mY]; simpa using h
def l4 (vs : List Vr) (s : ByteArray) : Nat → Int
 |0 => 0
 |n + 1 => if (nK vs n).1 = s then (nK vs n).2.1 else l4 vs s n
theorem Gu {K : SK} {w : World} {vv : Value} {code place deep ret loops outs : Int} {zs : List Int} {vs : List Vr} (h : SRaw K w vv code place deep ret loops outs zs vs) (s : ByteArray) (hn : vs.length ≤ 1048576) :
  Calls Tryd.prog 91 #[.pointer (some ⟨K.cb, 0, none⟩), .string s] w fun e w' => e = .returned (.int .i64 (l4 vs s vs.length)) ∧ Below w.heap.size w w' := by
 obtain ⟨a, cap, rfl, iQ, oC, hv⟩ := h.vars
 obtain ⟨k0, k1, k2, k3, k4, k5, k6, k7, k8, k9, vL, uQ⟩ := h.cells
 clear h k0 k1 k2 k3 k4 k5 k6 k8 k9 vL uQ
 have HV := aa hv
 clear hv
 go_enter Tryd.func91, Tryd.ntmps91
 go_wp2
 go_loopw [5] (fun i wr => wr = w ∧ ∃ n : Nat, n ≤ vs.length ∧ i = .int .i64 ((n : Int) - 1) ∧ l4 vs s vs.length = l4 vs s n) (fun i _ => (intOf i + 1).toNat)
 case atStart => exact ⟨rfl, vs.length, Nat.le_refl _, rfl, rfl⟩
 case round =>
  obtain ⟨rfl, n, hnl, rfl, hl⟩ := hrel
  have HL := aa hl
  clear hl
  cases n with
  |zero =>
   go_wp2
   go_ret
   exact ⟨by rw [HL.out]; rfl, Below.refl _ _⟩
  |succ n =>
   rcases HV.out with h0 | ⟨g, rfl, hv⟩
   ·omega
   obtain ⟨c0, c1, c2⟩ := hv n (by omega)
   have e1 : ((n + 1 : Nat) : Int) - 1 = n := by omega
   rw [e1]
   by_cases hs : (nK vs n).1 = s
   ·have ht : ((nK vs n).1.toList == s.toList) = true := by rw [hs]; exact beq_self_eq_true _
    have hL : l4 vs s (n + 1) = (nK vs n).2.1 := by simp [l4, hs]
    rw [hL] at HL
    go_wp2
    go_ret
    exact ⟨by rw [HL.out]; rfl, Below.refl _ _⟩
   ·have ht : ((nK vs n).1.toList == s.toList) = false := sq hs
    have hL : l4 vs s (n + 1) = l4 vs s n := by simp [l4, hs]
    go_wp2
    refine ⟨⟨trivial, n, by omega, rfl, by rw [HL.out]; exact hL⟩, by simp only [intOf]; omega⟩
theorem tZ (a b : List Vr) {i : Nat} (h : i < a.length) : nK (a ++ b) i = nK a i := by simp [nK, List.getElem?_append_left h]
theorem so (a b : List Vr) {i : Nat} (h : a.length ≤ i) : nK (a ++ b) i = nK b (i - a.length) := by simp [nK, List.getElem?_append_right h]
theorem uN (a b : List Vr) (s : ByteArray) : ∀ {n : Nat}, n ≤ a.length → l4 (a ++ b) s n = l4 a s n
 |0, _ => rfl
 |n + 1, h => by simp only [l4]; rw [tZ a b h, uN a b s (by omega)]
theorem A9 (a : List Vr) (v : Vr) (s : ByteArray) : l4 (a ++ [v]) s (a ++ [v]).length = if v.1 = s then v.2.1 else l4 a s a.length := by
 have e : (a ++ [v]).length = a.length + 1 := by simp
 rw [e]
 simp only [l4]
 rw [so a [v] lr, Nat.sub_self, uN a [v] s lr]
 rfl
theorem uM (a : List Vr) (d : Nat) (s : ByteArray) : ∀ l : List (ByteArray × Int), l4 (a ++ l.reverse.map fun p => (p.1, p.2, d)) s (a ++ l.reverse.map fun p => (p.1, p.2, d)).length = (match l.find? (fun p => decide (p.1 = s)) with | some p => p.2 | none => l4 a s a.length)
 |[] => by simp
 |p :: l => by
  have ih := uM a d s l
  rw [List.reverse_cons, List.map_append, ← List.append_assoc]
  rw [List.map_cons, List.map_nil, A9, ih]
  by_cases h : p.1 = s <;> simp [h]
theorem Gv (E : Sc) (s : ByteArray) : l4 (varsOf E) s (varsOf E).length = look E s := by
 induction E with
 |nil => rfl
 |cons l E ih =>
  rw [varsOf, uM, ih]
  unfold look QZ
  rw [List.flatten_cons, List.find?_append]
  cases List.find? (fun p => decide (p.1 = s)) l <;> rfl
theorem ns {K : SK} {w0 : World} {ah : Option Nat} {s : CS} {ret loops outs : Int} {w : World} (h : SS K w0 ah (.ok s) ret loops outs w) (t : ByteArray) :
  Calls Tryd.prog 91 #[.pointer (some ⟨K.cb, 0, none⟩), .string t] w fun e w' => e = .returned (.int .i64 (look s.1 t)) ∧ SS K w0 ah (.ok s) ret loops outs w' := by
 obtain ⟨vv, code, place, deep, zs, vs, h1, ⟨_, _, _, _, h6, h7, h8, _⟩, _⟩ := h.is
 subst h7
 have := h.ok.few
 refine (Gu h1 t (by rw [tY]; omega)).mono ?_
 rintro e w' ⟨rfl, hb⟩
 exact ⟨by rw [Gv], h.calm hb⟩
theorem og {P : Program} (w : World) (base : Nat) (t ty e : TypeId) (i : TypeInfo) (z : Value) (size bytes : Nat) (ht : P.underlying t = some (.slice e)) (hi : P.info? e = some i) (hz : i.zero = some z)
  (lQ : i.size = size) (yI : i.bytes = bytes) (Ri : z.cells.size = size) (bP : 0 < size) (v : Value) (n : Nat) (xs : List Value) (bK : w.ownsRow base e size v n xs)
  (a : Addr) (m c : Nat) (news : List Value) (hl : news.length = m * size) (nw : ∀ j u, news[j]? = some u → w.cell? (a.add j) = some u) (h1 : ∀ u ∈ news, u.oneCell' = true) (KK : n + m ≤ maxLen) (hb : (n + m) * bytes ≤ 140737488355328) (nR : base ≤ w.heap.size) :
  ∃ v' w', (Builtin.append_ #[t, t] ty #[v, .slice (some a) m c]).run P w = .ok v' w' ∧ w'.ownsRow base e size v' (n + m) (xs ++ news) ∧ w.grownBy w' v.ownBlock ∧ (v'.ownBlock = v.ownBlock ∨ ∃ k, v'.ownBlock = some k ∧ w.heap.size ≤ k) ∧
   ∃ a c, v' = .slice a (n + m) c := by
 obtain ⟨v', w', hr, h2, h3, h4⟩ := run_append_own (P := P) w base t ty e i z size bytes ht hi hz lQ yI Ri bP v n xs bK a m c news hl nw h1 KK hb nR
 subst lQ
 subst yI
 have hsmall : n + m ≤ 9223372036854775807 := by simp only [maxLen] at KK; omega
 have zC : ∃ a c, v' = .slice a (n + m) c := by
  rcases h2.2 with ⟨rfl, e⟩ | ⟨g, cap, cur, rfl, _⟩
  ·exact ⟨none, 0, by rw [e]⟩
  ·exact ⟨_, _, rfl⟩
 refine ⟨v', w', hr, h2, h3, ?_, zC⟩
 rcases bK.2 with ⟨rfl, rfl⟩ | ⟨g, cap, cur, rfl, hbg, hg, hnc, uW, El, RF⟩
 ·by_cases hm : m = 0
  ·exact .inl (by rw [h4.2 ⟨rfl, hm⟩])
  ·have Aw := run_append_nil (P := P) w t ty e i z ht hi hz a m c news hl nw (by omega) (by omega) (by have hb := hb; simp only [Nat.zero_add] at hb; omega)
   rw [Aw] at hr
   injection hr with e1 e2
   subst e1
   exact .inr ⟨w.heap.size, rfl, Nat.le_refl _⟩
 ·by_cases xh : n + m ≤ cap
  ·have be : n * i.size + news.length ≤ cur.size := by rw [hl, El, ← Nat.add_mul]; exact Nat.mul_le_mul_right _ xh
   have Aw := run_append_room (P := P) w t ty e i ht hi g n cap cur hg a m c news hl nw h1 xh be
   rw [Aw] at hr
   injection hr with e1 e2
   subst e1
   exact .inl rfl
  ·have holds : ∀ j u, xs[j]? = some u → w.cell? ((⟨g, 0, none⟩ : Addr).add j) = some u := bK.cells (g := g) rfl
   have Aw := run_append_grow (P := P) w t ty e i z ht hi hz ⟨g, 0, none⟩ n cap xs bK.1 holds a m c news hl nw (by omega) (by omega) (growslice_fits (by omega) hb)
   rw [Aw] at hr
   injection hr with e1 e2
   subst e1
   exact .inr ⟨w.heap.size, rfl, Nat.le_refl _⟩
theorem bE {P : Program} (w : World) {ops : Array Oper} {rest : List Oper} {o : Oper} {a : Act} {Q : Exit → Act → World → Prop} (MA : o.guard = none) (sl x : Operand) (t : TypeId)
  (ho : o.op = .call { callee := .builtin .append, args := #[sl, x], argTypes := #[t, t] })
  (base : Nat) (e : TypeId) (i : TypeInfo) (z : Value) (size bytes : Nat) (ht : P.underlying t = some (.slice e)) (hi : P.info? e = some i) (hz : i.zero = some z)
  (lQ : i.size = size) (yI : i.bytes = bytes) (Ri : z.cells.size = size) (bP : 0 < size)
  (v : Value) (n : Nat) (xs : List Value) (hs : a.eval sl = v) (bK : w.ownsRow base e size v n xs)
  (ad : Addr) (m c : Nat) (news : List Value) (hx : a.eval x = .slice (some ad) m c) (hl : news.length = m * size) (nw : ∀ j u, news[j]? = some u → w.cell? (ad.add j) = some u) (h1 : ∀ u ∈ news, u.oneCell' = true)
  (KK : n + m ≤ maxLen) (uZ : (n + m) * bytes ≤ 140737488355328) (nR : base ≤ w.heap.size)
  (h : ∀ v' w', Hid (w'.ownsRow base e size v' (n + m) (xs ++ news)) → Hid (w.grownBy w' v.ownBlock) → Hid (v'.ownBlock = v.ownBlock ∨ ∃ k, v'.ownBlock = some k ∧ w.heap.size ≤ k) → Hid (∃ a c, v' = .slice a (n + m) c) → wpList P ops Q rest (a.put o.dst v') w') : wpList P ops Q (o :: rest) a w := by
 refine wpList_plain MA fun K hK => ?_
 obtain ⟨v', w', hr, h2, h3, h4, h5⟩ := og (P := P) w base t o.type e i z size bytes ht hi hz lQ yI Ri bP v n xs bK ad m c news hl nw h1 KK uZ nR
 unfold Oper.wp execOp
 simp only [ho, resolve, invoke, builtin, Sem.run_bind, Sem.run_pure, Result.andThen_ok, List.map_toArray, List.map_cons, List.map_nil, hs, hx, hr]
 exact hK _ _ (h v' w' h2 h3 h4 h5)
theorem Hu {K : SK} (hK : K.Ok) {w : World} {vv : Value} {code place deep ret loops outs : Int} {zs : List Int} {vs : List Vr} (h : SRaw K w vv code place deep ret loops outs zs vs) (c : Int) (p : Nat) :
  Calls Tryd.prog 52 #[.pointer (some ⟨K.cb, 0, none⟩), .int .i64 c, .int .i64 p] w fun e w' => e = .returned (.tuple #[]) ∧ SRaw K w' vv (if code = 0 then c else code) (if code = 0 then (p : Int) else place) deep ret loops outs zs vs ∧ Kept (fun k => k = K.cb) w w' := by
 obtain ⟨k0, k1, k2, k3, k4, k5, k6, k7, k8, k9, vL, uQ⟩ := h.cells
 have f5 := h.free 5
 have f6 := h.free 6
 have HR := aa h
 clear h k0 k1 k2 k3 k4 k7 k8 k9 vL uQ
 by_cases hz : code = 0
 ·subst hz
  go_enter Tryd.func52, Tryd.ntmps52
  go_wp2
  go_end0
  have r1 := HR.out.set hK (i := 5) (u := .int .i64 c) (code' := c) (place' := place) (deep' := deep) (ret' := ret) (loops' := loops) (outs' := outs) rfl
  have r2 := r1.set hK (i := 6) (u := .int .i64 p) (code' := c) (place' := p) (deep' := deep) (ret' := ret) (loops' := loops) (outs' := outs) rfl
  exact ⟨rfl, r2, (Kept.setCell (S := fun k => k = K.cb) ⟨K.cb, 5, none⟩ _ rfl).trans (Kept.setCell (S := fun k => k = K.cb) ⟨K.cb, 6, none⟩ _ rfl) (fun _ _ h => h)⟩
 ·have hz' : (code == 0) = false := bn hz
  go_enter Tryd.func52, Tryd.ntmps52
  go_wp2
  go_end0
  exact ⟨rfl, HR.out, Kept.refl _ _⟩
end Go.Proofs.YtkfbbdhidecefaaDoor
