import Derived.Test.YteaocammohcgoaaGreatDoorQKaBase
import Derived.BigQuiet
import Derived.Deep.RegionWith
set_option linter.unusedVariables false
set_option maxHeartbeats 16000000
set_option maxRecDepth 100000
namespace Go.Proofs.YteaocammohcgoaaGreatDoor
open Go.RowKit
variable {G : Prop}
theorem bJ0 (h : G := by
 obtain ⟨s1, h3, h4⟩ := bg h1
 injection h4 with h4; subst h4
 have := nt (g := fun i => (T.kids i).size) (fun i hi => (ih i hi (he i hi)).want _) lr _ _ h3
 exact ⟨this.1, by rw [this.2]; omega⟩) : G := h
theorem bJ1 (h : G := by
 obtain ⟨s1, h3, h4⟩ := bg h1
 injection h4 with h4; subst h4
 have := aQ 0 (by omega) he _ _ _ h3
 rw [hl] at hz; simp only [aw] at hz
 exact ⟨this.1, by rw [this.2]; omega⟩) : G := h
theorem bJ2 (h : G := by
 have ht := aP s
 have Oy : (ab s).1 = s.1 := rfl
 rw [a1, Oy]
 exact ⟨rfl, rfl, by omega, by omega⟩) : G := h
theorem bJ3 (h : G := by
 rw [hl] at hz; simp only [aw] at hz
 exact ⟨rfl, by show (ab s).2.length = _; omega⟩) : G := h
theorem bJ4 (h : G := by
 rw [hz]; exact ((hE 0 (by omega) he).want _).st.take s s' hs e) : G := h
abbrev Sc := List (List (ByteArray × Int))
abbrev CS := Sc × List Int
abbrev CR (α : Type) := Except (Int × Nat) α
def CR.bind {α β : Type} (r : CR α) (f : α → CR β) : CR β := match r with | .error e => .error e | .ok a => f a
theorem CR.bind_ok {α β : Type} (a : α) (f : α → CR β) : CR.bind (.ok a) f = f a := rfl
theorem CR.bind_error {α β : Type} (e : Int × Nat) (f : α → CR β) : CR.bind (.error e : CR α) f = .error e := rfl
def lX (l : List (ByteArray × Int)) (s : ByteArray) : Int := match l.find? (fun p => decide (p.1 = s)) with | some p => p.2 | none => 0
def look (E : Sc) (s : ByteArray) : Int := lX E.flatten s
def oE (E : Sc) (s : ByteArray) : Bool := match E with | [] => false | l :: _ => l.any (fun p => decide (p.1 = s))
def fW (E : Sc) (s : ByteArray) (t : Int) : Sc := match E with | [] => [[(s, t)]] | l :: E => ((s, t) :: l) :: E
def forN {σ : Type} (f : Nat → σ → CR σ) : Nat → σ → CR σ
 |0, s => .ok s
 |n + 1, s => CR.bind (forN f n s) (f n)
abbrev qE := CS → CR (Int × CS)
def ab (s : CS) : CS := (s.1, s.2 ++ [0])
def cE (m : qE) : qE := fun s => CR.bind (m s) fun r => if r.1 = 0 then .error (9, s.2.length) else .ok r
def aC (m : qE) (t : Int) : CS → CR CS := fun s => CR.bind (cE m s) fun r => if r.1 = t then .ok r.2 else .error (7, s.2.length)
def xI (s : ByteArray) : Bool := hasB [⟨#[61, 61]⟩, ⟨#[33, 61]⟩] s
def qW (s : ByteArray) : Bool := hasB [⟨#[33]⟩] s
def dn (F : Nd) (s : ByteArray) : Nat → Option Nat
 |0 => none
 |n + 1 => match dn F s n with | some i => some i | none => if (F.kids n).name = s then some n else none
def findF (F : Nd) (s : ByteArray) : Option Nat := dn F s F.len
def bC (F : Nd) (k : Int) (name : ByteArray) (len : Nat) (kids : Nat → qE) (s : CS) (at' : Nat) : CR (Int × CS) :=
 if k = 22 then .ok (1, s)
 else if k = 23 then .ok (2, s)
 else if k = 24 then (if look s.1 name = 0 then .error (5, at') else .ok (look s.1 name, s))
 else if k = 25 then
  match findF F name with
  |none => .error (5, at')
  |some j => if len + 1 = (F.kids j).len then CR.bind (forN (fun i => aC (kids i) ((F.kids j).kids i).num) len s) fun s1 => .ok ((F.kids j).num, s1) else .error (8, at')
 else if k = 26 then CR.bind (forN (fun i => aC (kids i) 1) len s) fun s1 => .ok (3, s1)
 else if k = 27 then CR.bind (aC (kids 0) (if qW name then 2 else 1) s) fun s1 => .ok (if qW name then 2 else 1, s1)
 else if k = 29 then CR.bind (aC (kids 0) 3 s) fun s1 => .ok (1, s1)
 else if xI name then CR.bind (cE (kids 0) s) fun r => CR.bind (aC (kids 1) r.1 r.2) fun s2 => .ok (2, s2)
 else CR.bind (aC (kids 0) (if iS name = 1 ∨ iS name = 2 then 2 else 1) s) fun s1 =>
  CR.bind (aC (kids 1) (if iS name = 1 ∨ iS name = 2 then 2 else 1) s1) fun s2 =>
   .ok (if iS name = 1 ∨ iS name = 2 ∨ iS name = 3 then 2 else 1, s2)
def MS (F : Nd) (k : Int) (name : ByteArray) (len : Nat) (kids : Nat → qE) : qE := fun s =>
 CR.bind (bC F k name len kids (ab s) s.2.length) fun r => .ok (r.1, (r.2.1, r.2.2.set s.2.length r.1))
def bL (F : Nd) : Nd → qE
 |.nil => fun s => .ok (0, ab s)
 |.mk k _ name len kids => MS F k name len (fun i => bL F (kids i))
theorem qg (F : Nd) {T : Nd} (h : T.eOk = true) : bL F T = MS F T.kind T.name T.len (fun i => bL F (T.kids i)) := by cases T with | nil => simp [Nd.eOk, wk] at h | mk => rfl
structure Cx where
 ret : Int
 loops : Nat
 outs : Nat
abbrev KJ := Cx → CS → CR CS
def within (l : List (ByteArray × Int)) (m : CS → CR CS) : CS → CR CS := fun s => CR.bind (m (l :: s.1, s.2)) fun s1 => .ok (s1.1.tail, s1.2)
def oC (len : Nat) (kids : Nat → KJ) : KJ := fun cx s => forN (fun i => kids i cx) len (ab s)
def fL (p : Nat → Bool) : Nat → Bool
 |0 => false
 |n + 1 => fL p n || p n
structure Mn where
 st : KJ
 sts : KJ
 cs : Bool → KJ
def stM (F : Nd) (k : Int) (name : ByteArray) (len : Nat) (num : Nat → Int) (ex : Nat → qE) (kids : Nat → Mn) : KJ := fun cx s =>
 if k = 4 then within [] (oC len (fun i => (kids i).st) cx) s
 else if k = 5 then CR.bind (cE (ex 0) (ab s)) fun r => if oE r.2.1 name then .error (6, s.2.length) else .ok (fW r.2.1 name r.1, r.2.2)
 else if k = 6 then (if look s.1 name = 0 then .error (5, s.2.length) else aC (ex 0) (look s.1 name) (ab s))
 else if k = 7 then (if look s.1 name = 0 then .error (5, s.2.length) else if look s.1 name = 1 then .ok (ab s) else .error (7, s.2.length))
 else if k = 8 then CR.bind (aC (ex 0) 3 (ab s)) (aC (ex 1) 1)
 else if k = 9 ∨ k = 13 ∨ k = 14 then CR.bind (ex 0 (ab s)) fun r => .ok r.2
 else if k = 10 then CR.bind (aC (ex 0) 2 (ab s)) (forN (fun i => (kids (i + 1)).st cx) (len - 1))
 else if k = 11 then CR.bind (if len = 2 then aC (ex 0) 2 (ab s) else .ok (ab s)) ((kids (len - 1)).st { cx with loops := cx.loops + 1, outs := cx.outs + 1 })
 else if k = 12 then (if decide (0 < len) = decide (cx.ret ≠ 0) then (if 0 < len then aC (ex 0) cx.ret (ab s) else .ok (ab s)) else .error (9, s.2.length))
 else if k = 15 then forN (fun i => (kids i).cs (fL (fun j => decide (num j = 0)) i) { cx with outs := cx.outs + 1 }) len (ab s)
 else if k = 17 then (if cx.outs = 0 then .error (10, s.2.length) else .ok (ab s))
 else if k = 18 then (if cx.loops = 0 then .error (10, s.2.length) else .ok (ab s))
 else if k = 19 then aC (ex 0) 3 (ab s)
 else if k = 20 then CR.bind (cE (ex 0) (ab s)) fun r => if r.1 = 3 then .error (7, s.2.length + 1) else .ok r.2
 else if k = 21 then aC (ex 0) 1 (ab s)
 else .ok (ab s)
def FK (n : Int) (name : ByteArray) (len : Nat) (ex : Nat → qE) (kids : Nat → Mn) (found : Bool) : KJ := fun cx s =>
 if n = 0 ∧ found = true then .error (6, s.2.length)
 else CR.bind (if 0 < n then aC (ex 0) 3 (ab s) else .ok (ab s)) fun s1 =>
  CR.bind (if n = 2 then aC (ex 1) 1 s1 else .ok s1) fun s2 =>
   within (if al name then [] else [(name, 1)]) ((kids (len - 1)).sts cx) s2
def bY (F : Nd) : Nd → Mn
  | .nil => ⟨fun _ s => .ok s, fun _ s => .ok s, fun _ _ s => .ok s⟩
  | .mk k n name len kids =>
    ⟨stM F k name len (fun i => (kids i).num) (fun i => bL F (kids i)) (fun i => bY F (kids i)),
     oC len (fun i => (bY F (kids i)).st),
     FK n name len (fun i => bL F (kids i)) (fun i => bY F (kids i))⟩
def cL : Nd → Bool
 |.nil => false
 |.mk k _ _ len kids => if k = 17 then true else if k = 11 ∨ k = 15 then false else fL (fun i => cL (kids i)) len
def fz : Nd → Bool
 |.nil => false
 |.mk k _ _ len kids =>
  if k = 12 ∨ k = 21 then true
  else if k = 4 then decide (0 < len) && fz (kids (len - 1))
  else if k = 10 then decide (len = 3) && (fz (kids 1) && fz (kids 2))
  else if k = 11 then decide (len = 1) && !cL (kids 0)
  else false
def mD (T : Nd) (i : Nat) : CS → CR CS := fun s => if oE s.1 (T.kids i).name then .error (6, s.2.length) else .ok (fW s.1 (T.kids i).name (T.kids i).num, s.2 ++ [0])
def ja (F T : Nd) : List Int → CR (List Int) := fun X =>
 CR.bind (forN (mD T) (T.len - 1) ([[]], X ++ [0])) fun s1 =>
  CR.bind ((bY F (T.kids (T.len - 1))).sts ⟨T.num, 0, 0⟩ s1) fun s2 =>
   if T.num ≠ 0 ∧ fz (T.kids (T.len - 1)) = false then .error (9, X.length) else .ok s2.2
def dC (F : Nd) (i : Nat) : Unit → CR Unit := fun _ => if findF F (F.kids i).name = some i then .ok () else .error (6, 1 + aw (fun j => (F.kids j).size) i)
def dp (F : Nd) : CR (List Int) :=
 CR.bind (forN (dC F) F.len ()) fun _ => forN (fun i => ja F (F.kids i)) F.len [0]
def Nd.sizes (T : Nd) (n : Nat) : Nat := aw (fun i => (T.kids i).size) n
theorem uZ {σ : Type} {f : Nat → σ → CR σ} {m : σ → Nat} {g : Nat → Nat} {P : σ → Prop} {n : Nat} (h : ∀ i s s', i < n → P s → f i s = .ok s' → m s' = m s + g i ∧ P s') :
  ∀ {k : Nat}, k ≤ n → ∀ {s s' : σ}, P s → forN f k s = .ok s' → m s' = m s + aw g k ∧ P s'
 |0, _, s, s', hp, e => by injection e with e; subst e; exact ⟨rfl, hp⟩
 |k + 1, hk, s, s', hp, e => by
  rw [forN] at e
  cases hr : forN f k s with
  |error x => rw [hr] at e; cases e
  |ok s1 =>
   rw [hr, CR.bind_ok] at e
   obtain ⟨h1, h2⟩ := uZ h (Nat.le_of_succ_le hk) hp hr
   obtain ⟨h3, h4⟩ := h k s1 s' hk h2 e
   exact ⟨by simp only [aw]; omega, h4⟩
theorem jd (g j : Nat) : (⟨g, 0, none⟩ : Addr).add j = ⟨g, j, none⟩ := by
 unfold Addr.add
 split
 ·rename_i h; subst h; rfl
 ·simp
theorem dF {w w' : World} {base : Nat} {e : TypeId} {size n : Nat} {v : Value} {xs : List Value} (h : w.ownsRow base e size v n xs) (hb : ∀ k, v.ownBlock = some k → w'.heap[k]? = w.heap[k]?) : w'.ownsRow base e size v n xs := by
 refine ⟨h.1, ?_⟩
 rcases h.2 with h | ⟨g, cap, cur, rfl, h2, h3, h4⟩
 ·exact .inl h
 ·exact .inr ⟨g, cap, cur, rfl, h2, (hb g rfl).trans h3, h4⟩
def vp (T : Nd) : Prop := ∀ (w : World) (v : Value) (hi : Nat), T.Fine → hi ≤ w.heap.size → Row 0 hi w T v → T.cost ≤ 1048576 →
 Calls Tryz.prog 43 #[T.val v] w fun e w' => e = .returned (.int .i64 (T.size : Int)) ∧ Below w.heap.size w w'
theorem pM (T : Nd) (ih : ∀ i, i < T.len → vp (T.kids i)) : vp T := by
 intro w v hi hf cY hr eS
 have hn := T.fine_len hf
 have hz := T.size_cost
 have hze := T.size_eq
 have FH : ∀ j, j < T.len → (T.kids j).cost ≤ 1048576 := fun j hj => Nat.le_trans (T.cost_kid hj) eS
 obtain ⟨a, cap, rfl, b7, hq⟩ := ar.1 hr
 clear b7
 have HI := aa ih
 have HF := aa hf
 have HR := aa hq
 have HK := aa FH
 clear hr hf ih hq FH
 have aM : ∀ j, j < T.len → aw (fun i => (T.kids i).size) j + (T.kids j).size ≤ aw (fun i => (T.kids i).size) T.len := fun j hj => kQ _ hj
 have cr : ∀ j, aw (fun i => (T.kids i).size) (j + 1) = aw (fun i => (T.kids i).size) j + (T.kids j).size := fun j => rfl
 have h00 : aw (fun i => (T.kids i).size) 0 = 0 := rfl
 generalize aw (fun i => (T.kids i).size) = S at *
 have mT := aa aM
 have iK := aa cr
 clear aM cr
 unfold Nd.val
 generalize T.kind = tk
 generalize T.num = tn
 generalize T.name = ts
 have HB : ∀ a : Obj, Hid (Below w.heap.size w (w.alloc a)) := fun a => bA
 go_enter Tryz.func43, Tryz.ntmps43
 go_wp2
 go_loopw [3, 4] (fun k i wr => ∃ (j : Nat), j ≤ T.len ∧ i = .int .i64 j ∧ k = .int .i64 ((1 + S j : Nat) : Int) ∧ Below (w.heap.size + 1) (w.alloc (.cells #[.int .i64 tk, .int .i64 tn, .string ts, .slice a T.len cap] 25)) wr) (fun _ i _ => T.len - (intOf i).toNat)
 case atStart => exact ⟨0, by omega, rfl, by simp [h00], Below.refl _ _⟩
 case round =>
  obtain ⟨j, hj, rfl, rfl, hb⟩ := hrel
  have k3 : wr.cell? ⟨w.heap.size, 3, none⟩ = some (.slice a T.len cap) := by
   rw [hb.cell (p := ⟨w.heap.size, 3, none⟩) (by show w.heap.size < _; omega)]; simp
  have eJ := (HB (.cells #[.int .i64 tk, .int .i64 tn, .string ts, .slice a T.len cap] 25)).out.trans (hb.mono (by omega))
  have vI := eJ.size
  by_cases bB : j < T.len
  ·rcases HR.out with h0 | ⟨g, off, rfl, h1, h2, h3⟩
   ·omega
   obtain ⟨u, e0, e1, e2, e3, hu⟩ := h3 j bB
   have iW : g < w.heap.size := by omega
   rw [← eJ.cell (p := ⟨g, _, none⟩) iW] at e0 e1 e2 e3
   have HU := aa (ah eJ cY hu)
   have Ey := mT.out j bB
   have Kw := iK.out j
   have hkc := HK.out j bB
   have HC := HI.out j bB
   have ye := aa (Nd.fine_kid HF.out bB)
   unfold vp Nd.val at HC
   have qQ := aa HC
   clear h3 HC hu
   generalize T.kids j = K at *
   go_wp2_with (go_at_call 43; refine (qQ.out _ _ hi ye.out (by omega) HU.out (by omega)).mono ?_; rintro e w1 ⟨rfl, hb1⟩)
   have fC : w.heap.size + 1 ≤ wr.heap.size := by have := hb.size; simpa using this
   exact ⟨⟨j + 1, by omega, by go_num, by rw [Kw]; congr 1; omega, hb.trans (hb1.mono fC)⟩, by simp [intOf]; omega⟩
  ·go_wp2
   go_ret
   obtain rfl : j = T.len := by omega
   exact ⟨il (by omega), eJ⟩
theorem yD (T : Nd) : vp T := by
 induction T with
 |nil => exact pM _ fun i hi => absurd hi (Nat.not_lt_zero i)
 |mk k n s len kids ih => exact pM _ fun i _ => ih i
def JM (w : World) (lo : Nat) (v : Value) (n : Nat) (f : Nat → Int) : Prop :=
 ∃ a cap, v = .slice a n cap ∧ n ≤ cap ∧ cap ≤ 9223372036854775807 ∧ (n = 0 ∨ ∃ g off, a = some ⟨g, off, none⟩ ∧ lo ≤ g ∧ g < w.heap.size ∧ ∀ i, i < n → w.cell? ⟨g, off + i, none⟩ = some (.int .i64 (f i)))
def aV (T : Nd) (at' : Nat) (i : Nat) : Nat := at' + 1 + aw (fun j => (T.kids j).size) i
theorem o8 (T : Nd) (at' : Nat) : aV T at' 0 = at' + 1 := rfl
theorem eW (T : Nd) (at' i : Nat) : aV T at' (i + 1) = aV T at' i + (T.kids i).size := by simp only [aV, aw]; omega
theorem lO (T : Nd) (at' : Nat) : aV T at' T.len = at' + T.size := by unfold aV; rw [T.size_eq]; omega
theorem bP (T : Nd) (at' : Nat) {i : Nat} (h : i < T.len) : aV T at' i + (T.kids i).size ≤ at' + T.size := by
 rw [← lO T at']; have := kQ (fun j => (T.kids j).size) h; unfold aV; omega
def ni (T : Nd) (at' : Nat) : Nat → List Int
 |0 => []
 |n + 1 => ni T at' n ++ [(aV T at' n : Int)]
theorem lN (T : Nd) (at' n : Nat) : (ni T at' n).length = n := by
 induction n with
 |zero => rfl
 |succ n ih => simp [ni, ih]
theorem um (T : Nd) (at' : Nat) : ∀ {n i : Nat}, i < n → (ni T at' n)[i]? = some (aV T at' i : Int)
 |n + 1, i, h => by
  simp only [ni]
  by_cases e : i < n
  ·rw [List.getElem?_append_left (by rw [lN]; exact e)]; exact um T at' e
  ·obtain rfl : i = n := by omega
   rw [List.getElem?_append_right (by rw [lN]; exact Nat.le_refl _), lN]; simp
theorem DE : (Tryz.prog.info? 3).map (fun i => (i.zero, i.size, i.bytes)) = some (some (.int .i64 0), 1, 8) := by kernel_rfl
theorem I9 {W w : World} {lo : Nat} {v : Value} {n : Nat} {xs : List Int} (h : w.ownsRow lo 3 1 v n (xs.map (Value.int .i64))) (f : Nat → Int) (hx : ∀ i, i < n → xs[i]? = some (f i)) : JM w lo v n f := by
 have hc := h
 rcases h.2 with ⟨rfl, e⟩ | ⟨g, cap, cur, rfl, h2, h3, h4, h5, h6⟩
 ·exact ⟨none, 0, by rw [e], by omega, by omega, .inl e⟩
 ·refine ⟨_, cap, rfl, h4, by unfold maxLen at h5; omega, .inr ⟨g, 0, rfl, h2, (Array.getElem?_eq_some_iff.1 h3).1, fun i hi => ?_⟩⟩
  have := hc.cells (g := g) rfl i (.int .i64 (f i)) (by rw [List.getElem?_map, hx i hi]; rfl)
  rw [jd] at this
  rw [Nat.zero_add]; exact this
theorem fP (T : Nd) (w : World) (v : Value) (hi at' : Nat) (hf : T.Fine) (cY : hi ≤ w.heap.size) (hr : Row 0 hi w T v) (eS : T.cost ≤ 1048576) (Ih : at' ≤ 1099511627776) :
    Calls Tryz.prog 44 #[T.val v, .int .i64 at'] w fun e w' => ∃ u, e = .returned u ∧ JM w' w.heap.size u T.len (fun i => (aV T at' i : Int)) ∧ Below w.heap.size w w' := by
  have hn := T.fine_len hf
  have hz := T.size_cost
  have RG := T.cost_eq
  have FH : ∀ j, j < T.len → (T.kids j).cost ≤ 1048576 := fun j hj => Nat.le_trans (T.cost_kid hj) eS
  obtain ⟨a, cap, rfl, b7, hq⟩ := ar.1 hr
  obtain ⟨i0, ke, nn, eZ, ec⟩ := info_parts DE
  have BK := o8 T at'
  have KQ := aa (eW T at')
  have N6 := aa (fun i (h : i < T.len) => bP T at' h)
  have HNL := aa (lN T at')
  have HF := aa hf
  have HR := aa hq
  have HK := aa FH
  have hlen : T.len ≤ 1048576 := by omega
  have bS : T.size ≤ 1048577 := by omega
  clear hr hf hq FH b7 RG
  unfold Nd.val
  generalize T.kind = tk
  generalize T.num = tn
  generalize T.name = ts
  go_enter Tryz.func44, Tryz.ntmps44
  go_wp2
  have dY : Hid (Below w.heap.size w (w.alloc (.cells #[.int .i64 tk, .int .i64 tn, .string ts, .slice a T.len cap] 25))) := bA
  go_loopw [1, 5, 6] (fun at1 out i wr => ∃ (j : Nat) (sa : Option Addr) (sc : Nat), j ≤ T.len ∧ i = .int .i64 j ∧ at1 = .int .i64 (aV T at' j : Nat) ∧ out = .slice sa j sc ∧ wr.ownsRow (w.heap.size + 1) 3 1 (.slice sa j sc) j ((ni T at' j).map (Value.int .i64)) ∧ Below (w.heap.size + 1) (w.alloc (.cells #[.int .i64 tk, .int .i64 tn, .string ts, .slice a T.len cap] 25)) wr) (fun _ _ i _ => T.len - (intOf i).toNat)
  case atStart =>
    refine ⟨0, _, _, by omega, rfl, by rw [BK]; rfl, rfl, ?_, ?_⟩
    · have hh := World.ownsRow_made (base := w.heap.size + 1) (e := 3) (size := 1) (w.alloc (.cells #[.int .i64 tk, .int .i64 tn, .string ts, .slice a T.len cap] 25)) #[] 0 (by simp) (by unfold maxLen; omega) (by simp)
      simpa [ni] using hh
    · refine (Below.refl _ _).alloc ?_ _
      simp
  case round =>
    obtain ⟨j, sa, sc, hj, rfl, rfl, rfl, cg, hb⟩ := hrel
    have k3 : wr.cell? ⟨w.heap.size, 3, none⟩ = some (.slice a T.len cap) := by
      rw [hb.cell (p := ⟨w.heap.size, 3, none⟩) (by show w.heap.size < _; omega)]; simp
    have fC : w.heap.size + 1 ≤ wr.heap.size := by have := hb.size; simpa using this
    have oq := aa cg
    have HB := aa hb
    clear cg hb
    by_cases bB : j < T.len
    · rcases HR.out with h0 | ⟨g, off, rfl, h1, h2, h3⟩
      · omega
      obtain ⟨u, e0, e1, e2, e3, hu⟩ := h3 j bB
      have iW : g < w.heap.size := by omega
      have Ey := N6.out j bB
      have Kw := KQ.out j
      have hkc := HK.out j bB
      have ye := aa (Nd.fine_kid HF.out bB)
      have HC := yD (T.kids j)
      unfold vp Nd.val at HC
      have qQ := aa HC
      have HU := aa hu
      have uL : ni T at' (j + 1) = ni T at' j ++ [(aV T at' j : Int)] := rfl
      clear h3 HC hu
      have HE : Hid (w.cell? ⟨g, off + j * 4, none⟩ = some (.int .i64 (T.kids j).kind) ∧ w.cell? ⟨g, off + j * 4 + 1, none⟩ = some (.int .i64 (T.kids j).num) ∧ w.cell? ⟨g, off + j * 4 + 2, none⟩ = some (.string (T.kids j).name) ∧ w.cell? ⟨g, off + j * 4 + 3, none⟩ = some u) := ⟨e0, e1, e2, e3⟩
      clear e0 e1 e2 e3
      have Fl := aa uL
      clear uL
      generalize T.kids j = K at *
      generalize hk : aV T at' j = kj at *
      go_wp2_with (first
        | (at_builtin; refine wpList_append_own _ rfl _ _ 29 rfl (w.heap.size + 1) 3 i0 (.int .i64 0) 1 8 Tryz.underlying29 ke nn eZ ec rfl (by decide) _ j _ rfl (oq.out.alloc _) ⟨wr.heap.size, 0, none⟩ 1 1 [.int .i64 (kj : Int)] rfl rfl (by intro i u hu; rcases i with _ | i <;> simp_all [Addr.add]) (by intro u hu; simp at hu; subst hu; rfl) (by unfold maxLen; omega) (by omega) (by simp; omega) ?_
           intro v' w3 ix aX pS
           have eJ : Below (w.heap.size + 1) (w.alloc (.cells #[.int .i64 tk, .int .i64 tn, .string ts, .slice (some ⟨g, off, none⟩) T.len cap] 25)) w3 := (HB.out.alloc fC _).grown aX (by simp; omega) (fun k hk => ((oq.out.alloc (.cells #[.int .i64 (kj : Int)] 3)).lt k hk).1)
           have uR := dY.out.trans (eJ.mono (Nat.le_succ _))
           obtain ⟨e0, e1, e2, e3⟩ := HE.out
           rw [← uR.cell (p := ⟨g, _, none⟩) iW] at e0 e1 e2 e3
           have k3 : w3.cell? ⟨w.heap.size, 3, none⟩ = some (.slice (some ⟨g, off, none⟩) T.len cap) := by
             rw [eJ.cell (p := ⟨w.heap.size, 3, none⟩) (by show w.heap.size < _; omega)]; simp
           have HU3 := aa (ah uR cY HU.out)
           have zu := aa ix
           have ou := aa eJ
           have bW := uR.size
           clear ix aX pS eJ uR)
        | (go_at_call 43; refine (qQ.out _ _ hi ye.out (by omega) HU3.out (by omega)).mono ?_; rintro e w1 ⟨rfl, hb1⟩))
      obtain ⟨Lq, Ln, rfl⟩ : ∃ Lq Ln, v' = .slice Lq (j + 1) Ln := by
        rcases zu.out.2 with ⟨rfl, h⟩ | ⟨g, cp, cur, rfl, _⟩
        · omega
        · exact ⟨_, _, rfl⟩
      have mF : w.heap.size + 1 ≤ w3.heap.size := by have := ou.out.size; simpa using this
      refine ⟨⟨j + 1, Lq, Ln, by omega, by go_num, by rw [Kw]; go_num, rfl, ?_, ou.out.trans (hb1.mono mF)⟩, by simp [intOf]; omega⟩
      rw [Fl.out, List.map_append]
      exact dF zu.out fun k hk => hb1.block k (zu.out.lt k hk).2
    · go_wp2
      go_ret
      obtain rfl : j = T.len := by omega
      refine ⟨_, rfl, ?_, dY.out.trans (HB.out.mono (Nat.le_succ _))⟩
      have := I9 (W := w) oq.out (fun i => (aV T at' i : Int)) fun i hi => um T at' hi
      obtain ⟨a1, c1, e1, e2, e3, e4⟩ := this
      refine ⟨a1, c1, e1, e2, e3, ?_⟩
      rcases e4 with h | ⟨g, off, h5, h6, h7⟩
      · exact .inl h
      · exact .inr ⟨g, off, h5, by omega, h7⟩
theorem jq {e st : Nat → Bool} {kk : Nat → Int} {len : Nat} {s : ByteArray} (h : aK e st kk len s = true) : len = s.size ∧ ∀ i, i < s.size → b9 e st kk (s.data.toList.getD i 0).toNat i = true := by
 unfold aK at h
 simp only [Bool.and_eq_true, decide_eq_true_eq] at h
 exact ⟨h.1, dy.1 h.2⟩
theorem wJ {e st : Nat → Bool} {kk : Nat → Int} {i : Nat} (h : b9 e st kk 98 i = true) : kk i = 4 ∧ st i = true := by
 simp [b9] at h; exact h
theorem ko_i {e st : Nat → Bool} {kk : Nat → Int} {i : Nat} (h : b9 e st kk 105 i = true) : (kk i = 4 ∨ kk i = 10) ∧ st i = true := by
 simp [b9] at h; exact h
theorem sP {e st : Nat → Bool} {kk : Nat → Int} {i : Nat} (h : b9 e st kk 101 i = true) : e i = true := by
 simpa [b9] using h
theorem ko_c {e st : Nat → Bool} {kk : Nat → Int} {i : Nat} (h : b9 e st kk 99 i = true) : e i = true := by
 simp [b9] at h; exact h.2
theorem nh {e st : Nat → Bool} {kk : Nat → Int} {len : Nat} (h : aK e st kk len ⟨#[101]⟩ = true) : len = 1 ∧ e 0 = true := ⟨(jq h).1, sP ((jq h).2 0 (by decide))⟩
theorem JY {e st : Nat → Bool} {kk : Nat → Int} {len : Nat} (h : aK e st kk len ⟨#[99]⟩ = true) : len = 1 ∧ e 0 = true := ⟨(jq h).1, ko_c ((jq h).2 0 (by decide))⟩
theorem JX {e st : Nat → Bool} {kk : Nat → Int} {len : Nat} (h : aK e st kk len ⟨#[101, 101]⟩ = true) : len = 2 ∧ e 0 = true ∧ e 1 = true := ⟨(jq h).1, sP ((jq h).2 0 (by decide)), sP ((jq h).2 1 (by decide))⟩
theorem tp {T : Nd} (h : T.eOk = true) : T.kind = 22 ∨ T.kind = 23 ∨ T.kind = 24 ∨ T.kind = 25 ∨ T.kind = 26 ∨ T.kind = 27 ∨ T.kind = 28 ∨ T.kind = 29 := by
 rw [dd] at h
 unfold cw at h
 repeat' split at h
 all_goals first | omega | cases h
theorem tj {T : Nd} (hk : T.kind = 22 ∨ T.kind = 23 ∨ T.kind = 24) (h : T.eOk = true) : T.len = 0 := by
 rw [dd] at h
 rcases hk with hk | hk | hk <;> rw [hk] at h <;> simp [cw] at h
 ·exact h.2.2
 ·exact h.2.2
 ·exact h.2.2
theorem EK {T : Nd} (hk : T.kind = 25) (h : T.eOk = true) : ∀ i, i < T.len → (T.kids i).eOk = true := by
 rw [dd, hk] at h
 simp [cw] at h
 exact dy.1 h.2.2
theorem zg {T : Nd} (hk : T.kind = 26) (h : T.eOk = true) : T.len < 2 ∧ ∀ i, i < T.len → (T.kids i).eOk = true := by
 rw [dd, hk] at h
 simp [cw] at h
 exact ⟨h.2.1, dy.1 h.2.2⟩
theorem ze {T : Nd} (hk : T.kind = 27) (h : T.eOk = true) : T.len = 1 ∧ (T.kids 0).eOk = true := by
 rw [dd, hk] at h
 simp [cw] at h
 exact nh h.2.2
theorem EJ {T : Nd} (hk : T.kind = 29) (h : T.eOk = true) : T.len = 1 ∧ (T.kids 0).eOk = true := by
 rw [dd, hk] at h
 simp [cw] at h
 exact nh h.2
theorem oK {T : Nd} (hk : T.kind = 28) (h : T.eOk = true) : 0 < iS T.name ∧ T.len = 2 ∧ (T.kids 0).eOk = true ∧ (T.kids 1).eOk = true := by
 rw [dd, hk] at h
 simp [cw] at h
 exact ⟨h.2.1, JX h.2.2⟩
theorem sE {T : Nd} (h : T.sOk = true) : T.kind = 4 ∨ T.kind = 5 ∨ T.kind = 6 ∨ T.kind = 7 ∨ T.kind = 8 ∨ T.kind = 9 ∨ T.kind = 10 ∨ T.kind = 11 ∨ T.kind = 12 ∨ T.kind = 13 ∨ T.kind = 14 ∨ T.kind = 15 ∨ T.kind = 17 ∨ T.kind = 18 ∨ T.kind = 19 ∨ T.kind = 20 ∨ T.kind = 21 := by
 refine Classical.byContradiction fun hn => ?_
 simp only [not_or] at hn
 obtain ⟨h1, h2, h3, h4, h5, h6, h7, h8, h9, rW, mS, rV, OO, ON, rU, ML, qK⟩ := hn
 rw [bH] at h
 simp [ba, h1, h2, h3, h4, h5, h6, h7, h8, h9, rW, mS, rV, OO, ON, rU, ML, qK] at h
theorem Aw {T : Nd} (hk : T.kind = 4) (h : T.sOk = true) : ∀ i, i < T.len → (T.kids i).sOk = true := by
 rw [bH, hk] at h
 simp [ba] at h
 exact dy.1 h.2
theorem mz {T : Nd} (hk : T.kind = 5 ∨ T.kind = 6 ∨ T.kind = 9 ∨ T.kind = 13 ∨ T.kind = 14 ∨ T.kind = 19 ∨ T.kind = 20 ∨ T.kind = 21) (h : T.sOk = true) : T.len = 1 ∧ (T.kids 0).eOk = true := by
 rw [bH] at h
 rcases hk with hk | hk | hk | hk | hk | hk | hk | hk <;> rw [hk] at h <;> simp [ba] at h
 ·exact nh h.2
 ·exact nh h.2
 ·exact nh h.2.1
 ·exact JY h.2
 ·exact JY h.2
 ·exact nh h.2
 ·exact nh h.2
 ·exact nh h.2
theorem sD {T : Nd} (hk : T.kind = 7 ∨ T.kind = 17 ∨ T.kind = 18) (h : T.sOk = true) : T.len = 0 := by
 rw [bH] at h
 rcases hk with hk | hk | hk <;> rw [hk] at h <;> simp [ba] at h
 ·exact h.2.2
 ·exact h.2
 ·exact h.2
theorem Lk {T : Nd} (hk : T.kind = 8) (h : T.sOk = true) : T.len = 2 ∧ (T.kids 0).eOk = true ∧ (T.kids 1).eOk = true := by
 rw [bH, hk] at h
 simp [ba] at h
 exact JX h.2
theorem pA {T : Nd} (hk : T.kind = 10) (h : T.sOk = true) : (T.len = 2 ∨ T.len = 3) ∧ (T.kids 0).eOk = true ∧ ((T.kids 1).kind = 4 ∧ (T.kids 1).sOk = true) ∧ (T.len = 3 → ((T.kids 2).kind = 4 ∨ (T.kids 2).kind = 10) ∧ (T.kids 2).sOk = true) := by
 rw [bH, hk] at h
 simp only [ba, Int.reduceEq, if_true, if_false, or_self, Bool.and_eq_true, Bool.or_eq_true] at h
 rcases h.2 with h | h
 ·obtain ⟨h1, h2⟩ := jq h
  have h1 : T.len = 2 := h1
  exact ⟨.inl h1, sP (h2 0 (by decide)), wJ (h2 1 (by decide)), fun h => by omega⟩
 ·obtain ⟨h1, h2⟩ := jq h
  have h1 : T.len = 3 := h1
  exact ⟨.inr h1, sP (h2 0 (by decide)), wJ (h2 1 (by decide)), fun _ => ko_i (h2 2 (by decide))⟩
theorem CV {T : Nd} (hk : T.kind = 11) (h : T.sOk = true) : (T.len = 1 ∧ (T.kids 0).kind = 4 ∧ (T.kids 0).sOk = true) ∨ (T.len = 2 ∧ (T.kids 0).eOk = true ∧ ((T.kids 1).kind = 4 ∧ (T.kids 1).sOk = true)) := by
 rw [bH, hk] at h
 simp only [ba, Int.reduceEq, if_true, if_false, or_self, Bool.and_eq_true, Bool.or_eq_true] at h
 rcases h.2 with h | h
 ·obtain ⟨h1, h2⟩ := jq h
  exact .inl ⟨h1, wJ (h2 0 (by decide))⟩
 ·obtain ⟨h1, h2⟩ := jq h
  exact .inr ⟨h1, sP (h2 0 (by decide)), wJ (h2 1 (by decide))⟩
theorem CU {T : Nd} (hk : T.kind = 12) (h : T.sOk = true) : T.len = 0 ∨ (T.len = 1 ∧ (T.kids 0).eOk = true) := by
 rw [bH, hk] at h
 simp [ba] at h
 rcases h.2 with h | h
 ·exact .inl h
 ·exact .inr (nh h)
theorem CT {T : Nd} (hk : T.kind = 15) (h : T.sOk = true) : ∀ i, i < T.len → (T.kids i).cOk = true := by
 rw [bH, hk] at h
 simp [ba] at h
 exact dy.1 h.2
theorem zk {T : Nd} (h : T.cOk = true) : T.kind = 16 ∧ ((T.num = 0 ∧ T.len = 1) ∨ (T.num = 1 ∧ T.len = 2 ∧ (T.kids 0).eOk = true) ∨ (T.num = 2 ∧ T.len = 3 ∧ (T.kids 0).eOk = true ∧ (T.kids 1).eOk = true)) ∧ (T.kids (T.len - 1)).kind = 4 ∧ (T.kids (T.len - 1)).sOk = true := by
 rw [mO] at h
 by_cases hk : T.kind = 16
 ·simp only [iz, hk, if_true, Bool.and_eq_true] at h
  have h := h.2
  by_cases h0 : T.num = 0
  ·rw [if_pos h0] at h
   obtain ⟨h1, h2⟩ := jq h
   have h1 : T.len = 1 := h1
   have h3 := wJ (h2 0 (by decide))
   refine ⟨hk, .inl ⟨h0, h1⟩, ?_⟩
   rw [h1]; exact h3
  rw [if_neg h0] at h
  by_cases h1 : T.num = 1
  ·rw [if_pos h1] at h
   obtain ⟨h4, h2⟩ := jq h
   have h4 : T.len = 2 := h4
   refine ⟨hk, .inr (.inl ⟨h1, h4, sP (h2 0 (by decide))⟩), ?_⟩
   rw [h4]; exact wJ (h2 1 (by decide))
  rw [if_neg h1] at h
  by_cases h2 : T.num = 2
  ·rw [if_pos h2] at h
   obtain ⟨h4, h5⟩ := jq h
   have h4 : T.len = 3 := h4
   refine ⟨hk, .inr (.inr ⟨h2, h4, sP (h5 0 (by decide)), sP (h5 1 (by decide))⟩), ?_⟩
   rw [h4]; exact wJ (h5 2 (by decide))
  ·rw [if_neg h2] at h; cases h
 ·simp only [iz, hk, if_false] at h; cases h
theorem bg {α β : Type} {r : CR α} {f : α → CR β} {b : β} (h : CR.bind r f = .ok b) : ∃ a, r = .ok a ∧ f a = .ok b := by
 cases r with
 |error e => cases h
 |ok a => exact ⟨a, rfl, h⟩
theorem gR {m : qE} {s : CS} {r : Int × CS} (h : cE m s = .ok r) : m s = .ok r ∧ r.1 ≠ 0 := by
 obtain ⟨a, h1, h2⟩ := bg h
 split at h2
 ·cases h2
 ·injection h2 with h2; subst h2; exact ⟨h1, by assumption⟩
theorem zD {m : qE} {t : Int} {s s' : CS} (h : aC m t s = .ok s') : m s = .ok (t, s') ∧ t ≠ 0 := by
 obtain ⟨a, h1, h2⟩ := bg h
 obtain ⟨h3, h4⟩ := gR h1
 split at h2
 ·injection h2 with h2; subst h2; rename_i e; subst e; exact ⟨h3, h4⟩
 ·cases h2
def ExL (m : qE) (n : Nat) : Prop := ∀ s t s', m s = .ok (t, s') → s'.1 = s.1 ∧ s'.2.length = s.2.length + n
def WtL (m : CS → CR CS) (n : Nat) : Prop := ∀ s s', m s = .ok s' → s'.1 = s.1 ∧ s'.2.length = s.2.length + n
theorem ExL.value {m : qE} {n : Nat} (h : ExL m n) : ExL (cE m) n := fun s t s' e => h s t s' (gR e).1
theorem ExL.want {m : qE} {n : Nat} (h : ExL m n) (t : Int) : WtL (aC m t) n := fun s s' e => h s t s' (zD e).1
theorem aP (s : CS) : (ab s).2.length = s.2.length + 1 := by simp [ab]
theorem nt {f : Nat → CS → CR CS} {g : Nat → Nat} {n : Nat} (h : ∀ i, i < n → WtL (f i) (g i)) {k : Nat} (hk : k ≤ n) : WtL (forN f k) (aw g k) := by
  intro s s' e
  have := uZ (f := f) (m := fun s : CS => s.2.length) (g := g) (P := fun s' : CS => s'.1 = s.1) (n := n) (fun i a b hi hp e => by
    obtain ⟨h1, h2⟩ := h i hi a b e
    exact ⟨h2, h1.trans hp⟩) hk rfl e
  exact ⟨this.2, this.1⟩
theorem eh (F : Nd) : ∀ T : Nd, T.eOk = true → ExL (bL F T) T.size := by
 have step : ∀ T : Nd, (∀ i, i < T.len → (T.kids i).eOk = true → ExL (bL F (T.kids i)) (T.kids i).size) → T.eOk = true → ExL (bL F T) T.size := by
  intro T ih aN s t s' e
  rw [qg F aN] at e
  obtain ⟨r, h1, h2⟩ := bg e
  injection h2 with h2
  have hs : s'.1 = r.2.1 ∧ s'.2.length = r.2.2.length := by
   injection h2 with h3 h4
   subst h4
   exact ⟨rfl, by simp⟩
  have hz := T.size_eq
  have key : r.2.1 = s.1 ∧ r.2.2.length = s.2.length + T.size := by
   have ht := aP s
   have Oy : (ab s).1 = s.1 := rfl
   have aQ : ∀ i, i < T.len → (T.kids i).eOk = true → ∀ (x : Int) (a b : CS), aC (bL F (T.kids i)) x a = .ok b → b.1 = a.1 ∧ b.2.length = a.2.length + (T.kids i).size := fun i hi he x a b e => (ih i hi he).want x a b e
   unfold bC at h1
   by_cases Im : T.kind = 22
   ·rw [if_pos Im] at h1; injection h1 with h1; subst h1
    have hl := tj (.inl Im) aN
    exact bJ3
   rw [if_neg Im] at h1
   by_cases Bc : T.kind = 23
   ·rw [if_pos Bc] at h1; injection h1 with h1; subst h1
    have hl := tj (.inr (.inl Bc)) aN
    exact bJ3
   rw [if_neg Bc] at h1
   by_cases Il : T.kind = 24
   ·rw [if_pos Il] at h1
    split at h1
    ·cases h1
    injection h1 with h1; subst h1
    have hl := tj (.inr (.inr Il)) aN
    exact bJ3
   rw [if_neg Il] at h1
   by_cases FJ : T.kind = 25
   ·rw [if_pos FJ] at h1
    have he := EK FJ aN
    split at h1
    ·cases h1
    split at h1
    ·exact bJ0
    ·cases h1
   rw [if_neg FJ] at h1
   by_cases Ex : T.kind = 26
   ·rw [if_pos Ex] at h1
    obtain ⟨_, he⟩ := zg Ex aN
    exact bJ0
   rw [if_neg Ex] at h1
   by_cases Ik : T.kind = 27
   ·rw [if_pos Ik] at h1
    obtain ⟨hl, he⟩ := ze Ik aN
    exact bJ1
   rw [if_neg Ik] at h1
   by_cases BP : T.kind = 29
   ·rw [if_pos BP] at h1
    obtain ⟨hl, he⟩ := EJ BP aN
    exact bJ1
   rw [if_neg BP] at h1
   have Ku : T.kind = 28 := by have := tp aN; omega
   obtain ⟨_, hl, cX, jB⟩ := oK Ku aN
   rw [hl] at hz; simp only [aw] at hz
   split at h1
   ·obtain ⟨r0, h3, h4⟩ := bg h1
    obtain ⟨s2, h5, h6⟩ := bg h4
    injection h6 with h6; subst h6
    obtain ⟨a1, a2⟩ := (ih 0 (by omega) cX).value _ _ _ h3
    have := aQ 1 (by omega) jB _ _ _ h5
    exact ⟨this.1.trans a1, by rw [this.2, a2]; omega⟩
   ·obtain ⟨r0, h3, h4⟩ := bg h1
    obtain ⟨s2, h5, h6⟩ := bg h4
    injection h6 with h6; subst h6
    obtain ⟨a1, a2⟩ := aQ 0 (by omega) cX _ _ _ h3
    have := aQ 1 (by omega) jB _ _ _ h5
    exact ⟨this.1.trans a1, by rw [this.2, a2]; omega⟩
  exact ⟨hs.1.trans key.1, hs.2.trans key.2⟩
 intro T
 induction T with
 |nil => intro h; simp [Nd.eOk, wk] at h
 |mk k n s len kids ih => exact step _ (fun i _ => ih i)
def aO (E : Sc) : Nat := E.flatten.length
theorem lL {E : Sc} (h : E ≠ []) (s : ByteArray) (t : Int) : (fW E s t).tail = E.tail ∧ (fW E s t).length = E.length ∧ aO (fW E s t) = aO E + 1 := by
 cases E with
 |nil => exact absurd rfl h
 |cons l E => exact ⟨rfl, rfl, by simp [fW, aO]⟩
def StL (m : CS → CR CS) (n : Nat) : Prop := ∀ s s', s.1 ≠ [] → m s = .ok s' → s'.1.tail = s.1.tail ∧ s'.1.length = s.1.length ∧ s'.2.length = s.2.length + n ∧ aO s'.1 ≤ aO s.1 + n
theorem WtL.st {m : CS → CR CS} {n : Nat} (h : WtL m n) : StL m n := fun s s' _ e => by
 obtain ⟨h1, h2⟩ := h s s' e
 rw [h1]; exact ⟨rfl, rfl, h2, by omega⟩
theorem StL.comp {m m' : CS → CR CS} {n k j : Nat} (h : StL m n) (h' : StL m' k) (e : n + k = j) : StL (fun s => CR.bind (m s) m') j := by
 intro s s' hs e'
 obtain ⟨s1, h1, h2⟩ := bg e'
 obtain ⟨a1, a2, a3, a4⟩ := h s s1 hs h1
 have az : s1.1 ≠ [] := by intro e0; rw [e0] at a2; exact hs (List.length_eq_zero_iff.1 a2.symm)
 obtain ⟨b1, b2, b3, b4⟩ := h' s1 s' az h2
 exact ⟨b1.trans a1, b2.trans a2, by omega, by omega⟩
theorem StL.take {m : CS → CR CS} {n : Nat} (h : StL m n) : StL (fun s => m (ab s)) (1 + n) := by
 intro s s' hs e
 obtain ⟨b1, b2, b3, b4⟩ := h (ab s) s' hs e
 have := aP s
 have e1 : (ab s).1 = s.1 := rfl
 rw [e1] at b1 b2 b4
 exact ⟨b1, b2, by omega, by omega⟩
theorem StL.forN {f : Nat → CS → CR CS} {g : Nat → Nat} {n : Nat} (h : ∀ i, i < n → StL (f i) (g i)) : ∀ {k : Nat}, k ≤ n → StL (forN f k) (aw g k)
 |0, _, s, s', _, e => by injection e with e; subst e; exact ⟨rfl, rfl, rfl, Nat.le_add_right _ _⟩
 |k + 1, hk, s, s', hs, e => (StL.forN h (Nat.le_of_succ_le hk)).comp (h k hk) rfl s s' hs e
theorem StL.within {m : CS → CR CS} {n : Nat} (h : StL m n) (l : List (ByteArray × Int)) (hl : l.length ≤ 1) : WtL (within l m) n := by
 intro s s' e
 obtain ⟨s1, h1, h2⟩ := bg e
 injection h2 with h2; subst h2
 obtain ⟨b1, b2, b3, b4⟩ := h (l :: s.1, s.2) s1 (by simp) h1
 exact ⟨b1, b3⟩
theorem jK {g : Nat → Nat} : aw g 1 = g 0 := by simp [aw]
theorem wt (F : Nd) {T : Nd} (h : T.kind ≠ 0) : bY F T = ⟨stM F T.kind T.name T.len (fun i => (T.kids i).num) (fun i => bL F (T.kids i)) (fun i => bY F (T.kids i)), oC T.len (fun i => (bY F (T.kids i)).st), FK T.num T.name T.len (fun i => bL F (T.kids i)) (fun i => bY F (T.kids i))⟩ := by
 cases T with
 |nil => exact absurd rfl h
 |mk => rfl
theorem bT (F : Nd) {T : Nd} (h : T.kind ≠ 0) : (bY F T).st = stM F T.kind T.name T.len (fun i => (T.kids i).num) (fun i => bL F (T.kids i)) (fun i => bY F (T.kids i)) := by rw [wt F h]
theorem jm (F : Nd) {T : Nd} (h : T.kind ≠ 0) : (bY F T).sts = oC T.len (fun i => (bY F (T.kids i)).st) := by rw [wt F h]
theorem qi (F : Nd) {T : Nd} (h : T.kind ≠ 0) : (bY F T).cs = FK T.num T.name T.len (fun i => bL F (T.kids i)) (fun i => bY F (T.kids i)) := by rw [wt F h]
structure MnL (F T : Nd) : Prop where
 st : T.sOk = true → ∀ cx, StL ((bY F T).st cx) T.size
 sts : T.sOk = true → T.kind = 4 → ∀ cx, StL ((bY F T).sts cx) T.size
 cs : T.cOk = true → ∀ b cx, StL ((bY F T).cs b cx) T.size
theorem StL.err {e : CS → Int × Nat} {n : Nat} : StL (fun s => .error (e s)) n := fun s s' _ h => by cases h
theorem StL.ite {c : CS → Prop} [∀ s, Decidable (c s)] {a b : CS → CR CS} {n : Nat} (ha : StL a n) (hb : StL b n) : StL (fun s => if c s then a s else b s) n := by
 intro s s' hs e
 dsimp only at e
 split at e
 ·exact ha s s' hs e
 ·exact hb s s' hs e
theorem StL.ok0 : StL (fun s => .ok (ab s)) 1 := by
 intro s s' hs e
 injection e with e; subst e
 exact ⟨rfl, rfl, aP s, Nat.le_add_right _ _⟩
theorem Lg (F T : Nd) (ih : ∀ i, i < T.len → MnL F (T.kids i)) : MnL F T := by
 have hz := T.size_eq
 have hE : ∀ i, i < T.len → (T.kids i).eOk = true → ExL (bL F (T.kids i)) (T.kids i).size := fun i hi h => eh F _ h
 have QS : T.sOk = true → T.kind = 4 → ∀ cx, StL ((bY F T).sts cx) T.size := by
  intro aN h4 cx
  rw [jm F (by omega), hz]
  exact (StL.forN (fun i hi => (ih i hi).st (Aw h4 aN i hi) cx) lr).take
 refine ⟨?_, QS, ?_⟩
 ·intro aN cx
  have Kg := sE aN
  rw [bT F (by omega)]
  have fH : T.kind = 4 → StL ((bY F T).sts cx) T.size := fun h => QS aN h cx
  intro s s' hs e
  unfold stM at e
  by_cases h4 : T.kind = 4
  ·rw [if_pos h4] at e
   have := fH h4
   rw [jm F (by omega)] at this
   exact (this.within [] (by simp)).st s s' hs e
  rw [if_neg h4] at e
  by_cases h5 : T.kind = 5
  ·rw [if_pos h5] at e
   obtain ⟨hl, he⟩ := mz (.inl h5) aN
   rw [hl, jK] at hz
   obtain ⟨r, h1, h2⟩ := bg e
   obtain ⟨a1, a2⟩ := (hE 0 (by omega) he).value _ _ _ h1
   have ht := aP s
   have Oy : (ab s).1 = s.1 := rfl
   split at h2
   ·cases h2
   ·injection h2 with h2; subst h2
    rw [Oy] at a1
    obtain ⟨p1, p2, p3⟩ := lL (E := r.2.1) (by rw [a1]; exact hs) T.name r.1
    refine ⟨by rw [p1, a1], by rw [p2, a1], by show r.2.2.length = _; omega, ?_⟩
    show aO (fW r.2.1 T.name r.1) ≤ _
    rw [p3, a1]; omega
  rw [if_neg h5] at e
  by_cases h6 : T.kind = 6
  ·rw [if_pos h6] at e
   obtain ⟨hl, he⟩ := mz (.inr (.inl h6)) aN
   rw [hl, jK] at hz
   split at e
   ·cases e
   ·exact bJ4
  rw [if_neg h6] at e
  by_cases h7 : T.kind = 7
  ·rw [if_pos h7] at e
   have hl := sD (.inl h7) aN
   rw [hl] at hz; simp only [aw] at hz
   split at e
   ·cases e
   split at e
   ·rw [hz]; exact StL.ok0 s s' hs e
   ·cases e
  rw [if_neg h7] at e
  by_cases h8 : T.kind = 8
  ·rw [if_pos h8] at e
   obtain ⟨hl, cX, jB⟩ := Lk h8 aN
   rw [hl] at hz; simp only [aw] at hz
   rw [hz]
   exact (((hE 0 (by omega) cX).want _).st.comp ((hE 1 (by omega) jB).want _).st (by omega : _ = 0 + (T.kids 0).size + (T.kids 1).size)).take s s' hs e
  rw [if_neg h8] at e
  by_cases h9 : T.kind = 9 ∨ T.kind = 13 ∨ T.kind = 14
  ·rw [if_pos h9] at e
   obtain ⟨hl, he⟩ := mz (by omega) aN
   rw [hl, jK] at hz
   obtain ⟨r, h1, h2⟩ := bg e
   injection h2 with h2; subst h2
   obtain ⟨a1, a2⟩ := hE 0 (by omega) he _ _ _ h1
   exact bJ2
  rw [if_neg h9] at e
  by_cases rW : T.kind = 10
  ·rw [if_pos rW] at e
   obtain ⟨hl, cX, hb1, hb2⟩ := pA rW aN
   have hk : ∀ i, i < T.len - 1 → StL ((bY F (T.kids (i + 1))).st cx) (T.kids (i + 1)).size := by
    intro i hi
    have : i = 0 ∨ i = 1 := by omega
    rcases this with rfl | rfl
    ·exact (ih 1 (by omega)).st hb1.2 cx
    ·exact (ih 2 (by omega)).st (hb2 (by omega)).2 cx
   have jQ : 1 + ((T.kids 0).size + aw (fun i => (T.kids (i + 1)).size) (T.len - 1)) = T.size := by
    rw [hz]
    rcases hl with hl | hl <;> rw [hl] <;> simp [aw] <;> omega
   rw [← jQ]
   exact (((hE 0 (by omega) cX).want _).st.comp (StL.forN hk lr) rfl).take s s' hs e
  rw [if_neg rW] at e
  by_cases mS : T.kind = 11
  ·rw [if_pos mS] at e
   rcases CV mS aN with ⟨hl, BK, hb⟩ | ⟨hl, he, hb⟩
   ·rw [hl] at hz e; simp only [aw] at hz
    rw [if_neg (by omega)] at e
    have := (ih 0 (by omega)).st hb { cx with loops := cx.loops + 1, outs := cx.outs + 1 }
    rw [hz, Nat.zero_add]
    exact this.take s s' hs e
   ·rw [hl] at hz e; simp only [aw] at hz
    rw [if_pos rfl] at e
    have := (ih 1 (by omega)).st hb.2 { cx with loops := cx.loops + 1, outs := cx.outs + 1 }
    rw [hz]
    exact (((hE 0 (by omega) he).want _).st.comp this (by omega : _ = 0 + (T.kids 0).size + (T.kids 1).size)).take s s' hs e
  rw [if_neg mS] at e
  by_cases rV : T.kind = 12
  ·rw [if_pos rV] at e
   split at e
   ·rcases CU rV aN with hl | ⟨hl, he⟩
    ·rw [hl] at hz e; simp only [aw] at hz
     rw [if_neg (by omega)] at e
     rw [hz]; exact StL.ok0 s s' hs e
    ·rw [hl, jK] at hz
     rw [if_pos (by omega)] at e
     exact bJ4
   ·cases e
  rw [if_neg rV] at e
  by_cases rU : T.kind = 15
  ·rw [if_pos rU] at e
   rw [hz]
   exact (StL.forN (g := fun i => (T.kids i).size) (fun i hi => (ih i hi).cs (CT rU aN i hi) _ _) lr).take s s' hs e
  rw [if_neg rU] at e
  by_cases qK : T.kind = 17
  ·rw [if_pos qK] at e
   have hl := sD (.inr (.inl qK)) aN
   rw [hl] at hz; simp only [aw] at hz
   split at e
   ·cases e
   ·rw [hz]; exact StL.ok0 s s' hs e
  rw [if_neg qK] at e
  by_cases Ky : T.kind = 18
  ·rw [if_pos Ky] at e
   have hl := sD (.inr (.inr Ky)) aN
   rw [hl] at hz; simp only [aw] at hz
   split at e
   ·cases e
   ·rw [hz]; exact StL.ok0 s s' hs e
  rw [if_neg Ky] at e
  have hone : T.kind = 19 ∨ T.kind = 20 ∨ T.kind = 21 := by omega
  obtain ⟨hl, he⟩ := mz (by omega) aN
  rw [hl, jK] at hz
  by_cases Kx : T.kind = 19
  ·rw [if_pos Kx] at e
   exact bJ4
  rw [if_neg Kx] at e
  by_cases Kv : T.kind = 20
  ·rw [if_pos Kv] at e
   obtain ⟨r, h1, h2⟩ := bg e
   split at h2
   ·cases h2
   injection h2 with h2; subst h2
   obtain ⟨a1, a2⟩ := (hE 0 (by omega) he).value _ _ _ h1
   exact bJ2
  rw [if_neg Kv, if_pos (by omega)] at e
  exact bJ4
 ·intro aN b cx
  obtain ⟨hk, hn, lg, Eo⟩ := zk aN
  rw [qi F (by omega)]
  intro s s' hs e
  unfold FK at e
  split at e
  ·cases e
  have oI : WtL (within (if al T.name then [] else [(T.name, 1)]) ((bY F (T.kids (T.len - 1))).sts cx)) (T.kids (T.len - 1)).size := by
   refine ((ih (T.len - 1) (by rcases hn with h | h | h <;> omega)).sts Eo lg cx).within _ ?_
   split <;> simp
  rcases hn with ⟨h0, hl⟩ | ⟨h1, hl, he⟩ | ⟨h2, hl, cX, jB⟩
  ·rw [hl] at hz oI e; simp only [aw] at hz
   rw [if_neg (by omega)] at e
   simp only [CR.bind_ok] at e
   rw [if_neg (by omega)] at e
   rw [hz, Nat.zero_add]
   exact oI.st.take s s' hs e
  ·rw [hl] at hz oI e; simp only [aw] at hz
   rw [if_pos (by omega)] at e
   obtain ⟨s1, h3, h4⟩ := bg e
   rw [if_neg (by omega)] at h4
   rw [hz]
   refine (((hE 0 (by omega) he).want 3).st.comp oI.st (by simp : _ = 0 + (T.kids 0).size + (T.kids 1).size)).take s s' hs ?_
   dsimp only
   rw [h3]; exact h4
  ·rw [hl] at hz oI e; simp only [aw] at hz
   rw [if_pos (by omega)] at e
   obtain ⟨s1, h3, h4⟩ := bg e
   rw [if_pos h2] at h4
   rw [hz]
   refine (((hE 0 (by omega) cX).want 3).st.comp (((hE 1 (by omega) jB).want 1).st.comp oI.st rfl) (by simp; omega : _ = 0 + (T.kids 0).size + (T.kids 1).size + (T.kids 2).size)).take s s' hs ?_
   dsimp only
   rw [h3]; exact h4
theorem iq (F : Nd) : ∀ T : Nd, MnL F T := by
 intro T
 induction T with
 |nil => exact ⟨fun h => by simp [Nd.sOk, wk] at h, fun h => by simp [Nd.sOk, wk] at h, fun h => by simp [Nd.cOk, wk] at h⟩
 |mk k n s len kids ih => exact Lg F _ fun i _ => ih i
structure Kept (S : Nat → Prop) (w w' : World) : Prop where
 os : w'.os = w.os
 tape : w'.tape = w.tape
 output : w'.output = w.output
 size : w.heap.size ≤ w'.heap.size
 block : ∀ k, k < w.heap.size → ¬ S k → w'.heap[k]? = w.heap[k]?
theorem Kept.refl (S : Nat → Prop) (w : World) : Kept S w w := ⟨rfl, rfl, rfl, Nat.le_refl _, fun _ _ _ => rfl⟩
theorem Kept.trans {S S' : Nat → Prop} {a b c : World} (h : Kept S a b) (k : Kept S' b c) (hs : ∀ i, i < a.heap.size → S' i → S i) : Kept S a c :=
 ⟨k.os.trans h.os, k.tape.trans h.tape, k.output.trans h.output, Nat.le_trans h.size k.size, fun i hi hn => (k.block i (Nat.lt_of_lt_of_le hi h.size) (fun h' => hn (hs i hi h'))).trans (h.block i hi hn)⟩
theorem bQ {w w' : World} (h : Below w.heap.size w w') (S : Nat → Prop) : Kept S w w' := ⟨h.os, h.tape, h.output, h.size, fun k hk _ => h.block k hk⟩
theorem Kept.below {S : Nat → Prop} {w w' : World} (h : Kept S w w') {B : Nat} (hB : B ≤ w.heap.size) (hS : ∀ k, S k → B ≤ k) : Below B w w' :=
 ⟨h.os, h.tape, h.output, h.size, fun k hk => h.block k (by omega) (fun hs => by have := hS k hs; omega)⟩
theorem Kept.setCell {S : Nat → Prop} {w : World} (a : Addr) (v : Value) (hs : S a.block) : Kept S w (w.setCell a v) :=
 ⟨by simp [World.setCell], by simp [World.setCell], by simp [World.setCell], by simp [World.setCell], fun k _ hn => Below.heap_setCell w a v k (fun e => hn (e ▸ hs))⟩
theorem Kept.grown {S : Nat → Prop} {w w' : World} {own : Option Nat} (h : w.grownBy w' own) (hs : ∀ k, own = some k → S k) : Kept S w w' :=
 ⟨h.os, h.tape, h.output, h.size, fun k hk hn => h.block k hk (fun e => hn (hs k e.symm))⟩
structure SK where
 cb : Nat
 tb : Nat
 lo : Nat
 up : Nat
 N : Nat
 F : Nd
 fv : Value
structure SK.Ok (K : SK) : Prop where
 cl : K.lo ≤ K.cb
 tl : K.lo ≤ K.tb
 cu : K.cb < K.up
 tu : K.tb < K.up
 ne : K.cb ≠ K.tb
 few : K.N ≤ 1048576
 tight : K.up ≤ K.cb + 1 ∨ K.up ≤ K.tb + 1
abbrev Vr := ByteArray × Int × Nat
def fE : List Vr → List Value
 |[] => []
 |v :: l => .string v.1 :: .int .i64 v.2.1 :: .int .i64 v.2.2 :: fE l
theorem tf (a b : List Vr) : fE (a ++ b) = fE a ++ fE b := by
 induction a with
 |nil => rfl
 |cons v a ih => simp [fE, ih]
def varsOf : Sc → List Vr
 |[] => []
 |l :: E => varsOf E ++ l.reverse.map fun p => (p.1, p.2, E.length + 1)
theorem pv (E : Sc) : (varsOf E).length = aO E := by
 induction E with
 |nil => rfl
 |cons l E ih => simp [varsOf, aO, ih]; unfold aO at ih; simp at ih ⊢; omega
def SK.cells (K : SK) (vv : Value) (code place deep ret loops outs : Int) : Array Value :=
 #[.int .i64 K.F.kind, .int .i64 K.F.num, .string K.F.name, K.fv, .slice (some ⟨K.tb, 0, none⟩) K.N K.N, .int .i64 code, .int .i64 place, vv, .int .i64 deep, .int .i64 ret, .int .i64 loops, .int .i64 outs]
structure SRaw (K : SK) (w : World) (vv : Value) (code place deep ret loops outs : Int) (zs : List Int) (vs : List Vr) : Prop where
 blk : w.heap[K.cb]? = some (.cells (K.cells vv code place deep ret loops outs) 51 (0, 0))
 typ : w.heap[K.tb]? = some (.cells (zs.map (Value.int .i64)).toArray 3 (0, 0))
 len : zs.length = K.N
 var : w.ownsRow K.up 92 3 vv vs.length (fE vs)
def SIs (K : SK) : CR CS → Int → Int → Int → List Int → List Vr → Prop
 |.ok s, code, place, deep, zs, vs => code = 0 ∧ place = 0 ∧ deep = s.1.length ∧ zs = s.2 ++ List.replicate (K.N - s.2.length) 0 ∧ s.2.length ≤ K.N ∧ vs = varsOf s.1 ∧ aO s.1 ≤ s.2.length ∧ s.1.length ≤ s.2.length + 1
 |.error e, code, place, _, _, _ => code = e.1 ∧ e.1 ≠ 0 ∧ place = (e.2 : Int)
def SK.S (K : SK) (own : Option Nat) : Nat → Prop := fun k => k = K.cb ∨ k = K.tb ∨ some k = own
structure SS (K : SK) (w0 : World) (ay : Option Nat) (σ : CR CS) (ret loops outs : Int) (w : World) : Prop where
 ok : K.Ok
 is : ∃ vv code place deep zs vs, SRaw K w vv code place deep ret loops outs zs vs ∧ SIs K σ code place deep zs vs ∧ (vv.ownBlock = ay ∨ ∃ k, vv.ownBlock = some k ∧ w0.heap.size ≤ k)
 kept : Kept (K.S ay) w0 w
theorem SRaw.lt {K : SK} {w : World} {vv : Value} {code place deep ret loops outs : Int} {zs : List Int} {vs : List Vr} (h : SRaw K w vv code place deep ret loops outs zs vs) : K.cb < w.heap.size ∧ K.tb < w.heap.size :=
 ⟨(Array.getElem?_eq_some_iff.1 h.blk).1, (Array.getElem?_eq_some_iff.1 h.typ).1⟩
theorem SRaw.room {K : SK} (hK : K.Ok) {w : World} {vv : Value} {code place deep ret loops outs : Int} {zs : List Int} {vs : List Vr} (h : SRaw K w vv code place deep ret loops outs zs vs) : K.up ≤ w.heap.size := by
 have := h.lt; have := hK.tight; omega
theorem SS.lt {K : SK} {w0 : World} {ay : Option Nat} {σ : CR CS} {ret loops outs : Int} {w : World} (h : SS K w0 ay σ ret loops outs w) : K.cb < w.heap.size ∧ K.tb < w.heap.size := by
 obtain ⟨vv, code, place, deep, zs, vs, h1, _⟩ := h.is; exact h1.lt
theorem SRaw.calm {K : SK} {w w' : World} {vv : Value} {code place deep ret loops outs : Int} {zs : List Int} {vs : List Vr} (h : SRaw K w vv code place deep ret loops outs zs vs) (hb : Below w.heap.size w w') : SRaw K w' vv code place deep ret loops outs zs vs :=
 ⟨(hb.block _ h.lt.1).trans h.blk, (hb.block _ h.lt.2).trans h.typ, h.len, dF h.var fun k hk => hb.block k (h.var.lt k hk).2⟩
theorem SS.calm {K : SK} {w0 : World} {ay : Option Nat} {σ : CR CS} {ret loops outs : Int} {w w' : World} (h : SS K w0 ay σ ret loops outs w) (hb : Below w.heap.size w w') : SS K w0 ay σ ret loops outs w' := by
 obtain ⟨vv, code, place, deep, zs, vs, h1, h2, h3⟩ := h.is
 exact ⟨h.ok, ⟨vv, code, place, deep, zs, vs, h1.calm hb, h2, h3⟩, h.kept.trans (bQ hb (K.S ay)) (fun _ _ h => h)⟩
theorem SS.alloc {K : SK} {w0 : World} {ay : Option Nat} {σ : CR CS} {ret loops outs : Int} {w : World} (h : SS K w0 ay σ ret loops outs w) (o : Obj) : SS K w0 ay σ ret loops outs (w.alloc o) :=
 h.calm (bA)
theorem SS.drew {K : SK} {w0 : World} {ay : Option Nat} {σ : CR CS} {ret loops outs : Int} {w : World} (h : SS K w0 ay σ ret loops outs w) : SS K w0 ay σ ret loops outs w.drew :=
 h.calm ⟨rfl, rfl, rfl, Nat.le_refl _, fun _ _ => rfl⟩
theorem SS.restart {K : SK} {w0 : World} {ay : Option Nat} {σ : CR CS} {ret loops outs : Int} {w : World} (h : SS K w0 ay σ ret loops outs w) :
  ∃ own, SS K w own σ ret loops outs w ∧ (∀ k, own = some k → K.up ≤ k ∧ k < w.heap.size) ∧ (own = ay ∨ ∃ k, own = some k ∧ w0.heap.size ≤ k) ∧
   ∀ σ' r' l' o' w', SS K w own σ' r' l' o' w' → SS K w0 ay σ' r' l' o' w' := by
 obtain ⟨vv, code, place, deep, zs, vs, h1, h2, h3⟩ := h.is
 have hk := h.kept
 have Mf := hk.size
 refine ⟨vv.ownBlock, ⟨h.ok, ⟨vv, code, place, deep, zs, vs, h1, h2, .inl rfl⟩, Kept.refl _ _⟩, h1.var.lt, h3, ?_⟩
 intro σ' r' l' o' w' h'
 obtain ⟨KW, code', place', deep', zs', vs', k1, k2, k3⟩ := h'.is
 refine ⟨h.ok, ⟨KW, code', place', deep', zs', vs', k1, k2, ?_⟩, hk.trans h'.kept ?_⟩
 ·rcases k3 with e | ⟨k, e, hk⟩
  ·rw [e]; exact h3
  ·exact .inr ⟨k, e, by omega⟩
 ·rintro i hi (e | e | e)
  ·exact .inl e
  ·exact .inr (.inl e)
  ·rcases h3 with e3 | ⟨k, e3, hk⟩
   ·exact .inr (.inr (e.trans e3))
   ·rw [e3] at e; injection e with e; omega
theorem SS.keep {K : SK} {w0 : World} {ay : Option Nat} {σ : CR CS} {ret loops outs : Int} {w : World} (h : SS K w0 ay σ ret loops outs w) {k : Nat} (hk : k < w0.heap.size) (h1 : k ≠ K.cb) (h2 : k ≠ K.tb) (h3 : some k ≠ ay) : w.heap[k]? = w0.heap[k]? :=
 h.kept.block k hk (by rintro (e | e | e) <;> contradiction)
theorem SS.below {K : SK} {w0 : World} {ay : Option Nat} {σ : CR CS} {ret loops outs : Int} {w : World} (h : SS K w0 ay σ ret loops outs w) (h0 : K.lo ≤ w0.heap.size) (ho : ∀ k, ay = some k → K.lo ≤ k) : Below K.lo w0 w :=
 h.kept.below h0 (by rintro k (e | e | e); have := h.ok.cl; omega; have := h.ok.tl; omega; exact ho k e.symm)
theorem SRaw.cells {K : SK} {w : World} {vv : Value} {code place deep ret loops outs : Int} {zs : List Int} {vs : List Vr} (h : SRaw K w vv code place deep ret loops outs zs vs) :
  w.cell? ⟨K.cb, 0, none⟩ = some (.int .i64 K.F.kind) ∧ w.cell? ⟨K.cb, 1, none⟩ = some (.int .i64 K.F.num) ∧ w.cell? ⟨K.cb, 2, none⟩ = some (.string K.F.name) ∧ w.cell? ⟨K.cb, 3, none⟩ = some K.fv ∧
  w.cell? ⟨K.cb, 4, none⟩ = some (.slice (some ⟨K.tb, 0, none⟩) K.N K.N) ∧ w.cell? ⟨K.cb, 5, none⟩ = some (.int .i64 code) ∧ w.cell? ⟨K.cb, 6, none⟩ = some (.int .i64 place) ∧ w.cell? ⟨K.cb, 7, none⟩ = some vv ∧
  w.cell? ⟨K.cb, 8, none⟩ = some (.int .i64 deep) ∧ w.cell? ⟨K.cb, 9, none⟩ = some (.int .i64 ret) ∧ w.cell? ⟨K.cb, 10, none⟩ = some (.int .i64 loops) ∧ w.cell? ⟨K.cb, 11, none⟩ = some (.int .i64 outs) := by
 have := h.blk
 refine ⟨?_, ?_, ?_, ?_, ?_, ?_, ?_, ?_, ?_, ?_, ?_, ?_⟩ <;> simp [World.cell?, this, SK.cells]
theorem SRaw.free {K : SK} {w : World} {vv : Value} {code place deep ret loops outs : Int} {zs : List Int} {vs : List Vr} (h : SRaw K w vv code place deep ret loops outs zs vs) (i : Nat) : w.frozen? ⟨K.cb, i, none⟩ = false := frozen_of_row w K.cb i _ _ h.blk
theorem SRaw.slice {K : SK} {w : World} {vv : Value} {code place deep ret loops outs : Int} {zs : List Int} {vs : List Vr} (h : SRaw K w vv code place deep ret loops outs zs vs) : ∃ a c, vv = .slice a vs.length c ∧ (vs.length : Int) ≤ c := by
 rcases h.var.2 with ⟨rfl, e⟩ | ⟨g, cap, cur, rfl, _, _, h4, _⟩
 ·exact ⟨none, 0, by rw [e], by rw [e]; simp⟩
 ·exact ⟨_, _, rfl, by omega⟩
theorem SRaw.set {K : SK} (hK : K.Ok) {w : World} {vv : Value} {code place deep ret loops outs code' place' deep' ret' loops' outs' : Int} {zs : List Int} {vs : List Vr} (h : SRaw K w vv code place deep ret loops outs zs vs) {i : Nat} {u : Value}
  (e : (K.cells vv code place deep ret loops outs).set! i u = K.cells vv code' place' deep' ret' loops' outs') : SRaw K (w.setCell ⟨K.cb, i, none⟩ u) vv code' place' deep' ret' loops' outs' zs vs := by
 refine ⟨?_, ?_, h.len, ownsRow_setCell_below h.var (show K.cb < K.up from hK.cu) u⟩
 ·rw [heap_setCell_same w K.cb i _ _ u h.blk, ← e]
  simp
 ·rw [Below.heap_setCell w ⟨K.cb, i, none⟩ u K.tb (fun e => hK.ne e.symm)]; exact h.typ
def Sn (σ : CR CS) (c : Int) (p : Nat) : CR CS := match σ with | .ok _ => .error (c, p) | .error e => .error e
theorem dW {K : SK} {w0 : World} {ay : Option Nat} {σ : CR CS} {ret loops outs : Int} {w : World} (h : SS K w0 ay σ ret loops outs w) (c : Int) (hc : c ≠ 0) (p : Nat) :
  Calls Tryz.prog 46 #[.pointer (some ⟨K.cb, 0, none⟩), .int .i64 c, .int .i64 p] w fun e w' => e = .returned (.tuple #[]) ∧ SS K w0 ay (Sn σ c p) ret loops outs w' := by
 obtain ⟨vv, code, place, deep, zs, vs, h1, h2, h3⟩ := h.is
 obtain ⟨k0, k1, k2, k3, k4, k5, k6, k7, k8, k9, qG, pN⟩ := h1.cells
 have f5 := h1.free 5
 have f6 := h1.free 6
 have HS := aa h
 have HR := aa h1
 have HI := aa h2
 have HO := aa h3
 clear h h1 h2 h3 k0 k1 k2 k3 k4 k7 k8 k9 qG pN
 cases σ with
 |ok s =>
  have hz : code = 0 := HI.out.1
  subst hz
  go_enter Tryz.func46, Tryz.ntmps46
  go_wp2
  go_end0
  have r1 := HR.out.set HS.out.ok (i := 5) (u := .int .i64 c) (code' := c) (place' := place) (deep' := deep) (ret' := ret) (loops' := loops) (outs' := outs) rfl
  have r2 := r1.set HS.out.ok (i := 6) (u := .int .i64 p) (code' := c) (place' := p) (deep' := deep) (ret' := ret) (loops' := loops) (outs' := outs) rfl
  refine ⟨rfl, HS.out.ok, ⟨vv, c, p, deep, zs, vs, r2, ⟨rfl, hc, rfl⟩, HO.out⟩, ?_⟩
  exact (HS.out.kept.trans (Kept.setCell _ _ (.inl rfl)) (fun _ _ h => h)).trans (Kept.setCell _ _ (.inl rfl)) (fun _ _ h => h)
 |error e =>
  have hz : (code == 0) = false := bn (by rw [HI.out.1]; exact HI.out.2.1)
  go_enter Tryz.func46, Tryz.ntmps46
  go_wp2
  go_end0
  exact ⟨rfl, HS.out⟩
def jk (vs : List Vr) (i : Nat) : Vr := vs.getD i (⟨#[]⟩, 0, 0)
theorem u5 : ∀ (vs : List Vr) (i : Nat), i < vs.length → (fE vs)[i * 3]? = some (.string (jk vs i).1) ∧ (fE vs)[i * 3 + 1]? = some (.int .i64 (jk vs i).2.1) ∧ (fE vs)[i * 3 + 2]? = some (.int .i64 (jk vs i).2.2)
 |[], i, h => absurd h (Nat.not_lt_zero _)
 |v :: l, 0, _ => ⟨rfl, rfl, rfl⟩
 |v :: l, i + 1, h => by
  have e0 : (i + 1) * 3 = i * 3 + 1 + 1 + 1 := by omega
  have e1 : (i + 1) * 3 + 1 = i * 3 + 1 + 1 + 1 + 1 := by omega
  have e2 : (i + 1) * 3 + 2 = i * 3 + 2 + 1 + 1 + 1 := by omega
  rw [e1, e2, e0]
  exact u5 l i (by simpa using h)
theorem SRaw.vars {K : SK} {w : World} {vv : Value} {code place deep ret loops outs : Int} {zs : List Int} {vs : List Vr} (h : SRaw K w vv code place deep ret loops outs zs vs) :
  ∃ a cap, vv = .slice a vs.length cap ∧ vs.length ≤ cap ∧ cap ≤ 9223372036854775807 ∧ (vs.length = 0 ∨ ∃ g, a = some ⟨g, 0, none⟩ ∧ ∀ i, i < vs.length → w.cell? ⟨g, i * 3, none⟩ = some (.string (jk vs i).1) ∧ w.cell? ⟨g, i * 3 + 1, none⟩ = some (.int .i64 (jk vs i).2.1) ∧ w.cell? ⟨g, i * 3 + 2, none⟩ = some (.int .i64 (jk vs i).2.2)) := by
 have hv := h.var
 rcases h.var.2 with ⟨rfl, e⟩ | ⟨g, cap, cur, rfl, h2, h3, h4, h5, h6⟩
 ·exact ⟨none, 0, by rw [e], by rw [e]; exact Nat.le_refl _, by omega, .inl e⟩
 ·refine ⟨_, cap, rfl, h4, by unfold maxLen at h5; omega, .inr ⟨g, rfl, fun i hi => ?_⟩⟩
  have hc := hv.cells (g := g) rfl
  obtain ⟨a0, a1, a2⟩ := u5 vs i hi
  refine ⟨?_, ?_, ?_⟩
  ·rw [← jd]; exact hc _ _ a0
  ·rw [← jd]; exact hc _ _ a1
  ·rw [← jd]; exact hc _ _ a2
theorem nM {a b : ByteArray} (h : ¬ a = b) : (a.toList == b.toList) = false := by rw [lT]; simpa using h
def gN (vs : List Vr) (s : ByteArray) : Nat → Int
 |0 => 0
 |n + 1 => if (jk vs n).1 = s then (jk vs n).2.1 else gN vs s n
theorem Du {K : SK} {w : World} {vv : Value} {code place deep ret loops outs : Int} {zs : List Int} {vs : List Vr} (h : SRaw K w vv code place deep ret loops outs zs vs) (s : ByteArray) (hn : vs.length ≤ 1048576) :
  Calls Tryz.prog 108 #[.pointer (some ⟨K.cb, 0, none⟩), .string s] w fun e w' => e = .returned (.int .i64 (gN vs s vs.length)) ∧ Below w.heap.size w w' := by
 obtain ⟨a, cap, rfl, ed, iy, hv⟩ := h.vars
 obtain ⟨k0, k1, k2, k3, k4, k5, k6, k7, k8, k9, qG, pN⟩ := h.cells
 clear h k0 k1 k2 k3 k4 k5 k6 k8 k9 qG pN
 have HV := aa hv
 clear hv
 go_enter Tryz.func108, Tryz.ntmps108
 go_wp2
 go_loopw [5] (fun i wr => wr = w ∧ ∃ n : Nat, n ≤ vs.length ∧ i = .int .i64 ((n : Int) - 1) ∧ gN vs s vs.length = gN vs s n) (fun i _ => (intOf i + 1).toNat)
 case atStart => exact ⟨rfl, vs.length, Nat.le_refl _, rfl, rfl⟩
 case round =>
  obtain ⟨rfl, n, hnl, rfl, hl⟩ := hrel
  have HL := aa hl
  clear hl
  cases n with
  |zero =>
   go_wp2
   go_ret
   exact ⟨by rw [HL.out]; rfl, Below.refl _ _⟩
  |succ n =>
   rcases HV.out with h0 | ⟨g, rfl, hv⟩
   ·omega
   obtain ⟨c0, c1, c2⟩ := hv n (by omega)
   have e1 : ((n + 1 : Nat) : Int) - 1 = n := by omega
   rw [e1]
   by_cases hs : (jk vs n).1 = s
   ·have ht : ((jk vs n).1.toList == s.toList) = true := by rw [hs]; exact beq_self_eq_true _
    have hL : gN vs s (n + 1) = (jk vs n).2.1 := by simp [gN, hs]
    rw [hL] at HL
    go_wp2
    go_ret
    exact ⟨by rw [HL.out]; rfl, Below.refl _ _⟩
   ·have ht : ((jk vs n).1.toList == s.toList) = false := nM hs
    have hL : gN vs s (n + 1) = gN vs s n := by simp [gN, hs]
    go_wp2
    refine ⟨⟨trivial, n, by omega, rfl, by rw [HL.out]; exact hL⟩, by simp only [intOf]; omega⟩
theorem pw (a b : List Vr) {i : Nat} (h : i < a.length) : jk (a ++ b) i = jk a i := by simp [jk, List.getElem?_append_left h]
theorem nK (a b : List Vr) {i : Nat} (h : a.length ≤ i) : jk (a ++ b) i = jk b (i - a.length) := by simp [jk, List.getElem?_append_right h]
theorem pL (a b : List Vr) (s : ByteArray) : ∀ {n : Nat}, n ≤ a.length → gN (a ++ b) s n = gN a s n
 |0, _ => rfl
 |n + 1, h => by simp only [gN]; rw [pw a b h, pL a b s (by omega)]
theorem wv (a : List Vr) (v : Vr) (s : ByteArray) : gN (a ++ [v]) s (a ++ [v]).length = if v.1 = s then v.2.1 else gN a s a.length := by
 have e : (a ++ [v]).length = a.length + 1 := by simp
 rw [e]
 simp only [gN]
 rw [nK a [v] lr, Nat.sub_self, pL a [v] s lr]
 rfl
theorem pK (a : List Vr) (d : Nat) (s : ByteArray) : ∀ l : List (ByteArray × Int), gN (a ++ l.reverse.map fun p => (p.1, p.2, d)) s (a ++ l.reverse.map fun p => (p.1, p.2, d)).length = (match l.find? (fun p => decide (p.1 = s)) with | some p => p.2 | none => gN a s a.length)
 |[] => by simp
 |p :: l => by
  have ih := pK a d s l
  rw [List.reverse_cons, List.map_append, ← List.append_assoc]
  rw [List.map_cons, List.map_nil, wv, ih]
  by_cases h : p.1 = s <;> simp [h]
theorem Dv (E : Sc) (s : ByteArray) : gN (varsOf E) s (varsOf E).length = look E s := by
 induction E with
 |nil => rfl
 |cons l E ih =>
  rw [varsOf, pK, ih]
  unfold look lX
  rw [List.flatten_cons, List.find?_append]
  cases List.find? (fun p => decide (p.1 = s)) l <;> rfl
theorem iU {K : SK} {w0 : World} {ay : Option Nat} {s : CS} {ret loops outs : Int} {w : World} (h : SS K w0 ay (.ok s) ret loops outs w) (t : ByteArray) :
  Calls Tryz.prog 108 #[.pointer (some ⟨K.cb, 0, none⟩), .string t] w fun e w' => e = .returned (.int .i64 (look s.1 t)) ∧ SS K w0 ay (.ok s) ret loops outs w' := by
 obtain ⟨vv, code, place, deep, zs, vs, h1, ⟨_, _, _, _, h6, h7, h8, _⟩, _⟩ := h.is
 subst h7
 have := h.ok.few
 refine (Du h1 t (by rw [pv]; omega)).mono ?_
 rintro e w' ⟨rfl, hb⟩
 exact ⟨by rw [Dv], h.calm hb⟩
theorem jE {P : Program} (w : World) (base : Nat) (t ty e : TypeId) (i : TypeInfo) (z : Value) (size bytes : Nat) (ht : P.underlying t = some (.slice e)) (hi : P.info? e = some i) (hz : i.zero = some z)
  (yI : i.size = size) (OI : i.bytes = bytes) (Qy : z.cells.size = size) (bS : 0 < size) (v : Value) (n : Nat) (xs : List Value) (cg : w.ownsRow base e size v n xs)
  (a : Addr) (m c : Nat) (news : List Value) (hl : news.length = m * size) (oH : ∀ j u, news[j]? = some u → w.cell? (a.add j) = some u) (h1 : ∀ u ∈ news, u.oneCell' = true) (Sk : n + m ≤ maxLen) (hb : (n + m) * bytes ≤ 140737488355328) (Ep : base ≤ w.heap.size) :
  ∃ v' w', (Builtin.append_ #[t, t] ty #[v, .slice (some a) m c]).run P w = .ok v' w' ∧ w'.ownsRow base e size v' (n + m) (xs ++ news) ∧ w.grownBy w' v.ownBlock ∧ (v'.ownBlock = v.ownBlock ∨ ∃ k, v'.ownBlock = some k ∧ w.heap.size ≤ k) ∧
   ∃ a c, v' = .slice a (n + m) c := by
 obtain ⟨v', w', hr, h2, h3, h4⟩ := run_append_own (P := P) w base t ty e i z size bytes ht hi hz yI OI Qy bS v n xs cg a m c news hl oH h1 Sk hb Ep
 subst yI
 subst OI
 have hsmall : n + m ≤ 9223372036854775807 := by simp only [maxLen] at Sk; omega
 have FD : ∃ a c, v' = .slice a (n + m) c := by
  rcases h2.2 with ⟨rfl, e⟩ | ⟨g, cap, cur, rfl, _⟩
  ·exact ⟨none, 0, by rw [e]⟩
  ·exact ⟨_, _, rfl⟩
 refine ⟨v', w', hr, h2, h3, ?_, FD⟩
 rcases cg.2 with ⟨rfl, rfl⟩ | ⟨g, cap, cur, rfl, hbg, hg, hnc, OH, vH, htake⟩
 ·by_cases hm : m = 0
  ·exact .inl (by rw [h4.2 ⟨rfl, hm⟩])
  ·have H1 := run_append_nil (P := P) w t ty e i z ht hi hz a m c news hl oH (by omega) (by omega) (by have hb := hb; simp only [Nat.zero_add] at hb; omega)
   rw [H1] at hr
   injection hr with e1 e2
   subst e1
   exact .inr ⟨w.heap.size, rfl, Nat.le_refl _⟩
 ·by_cases Ka : n + m ≤ cap
  ·have aq : n * i.size + news.length ≤ cur.size := by rw [hl, vH, ← Nat.add_mul]; exact Nat.mul_le_mul_right _ Ka
   have H1 := run_append_room (P := P) w t ty e i ht hi g n cap cur hg a m c news hl oH h1 Ka aq
   rw [H1] at hr
   injection hr with e1 e2
   subst e1
   exact .inl rfl
  ·have holds : ∀ j u, xs[j]? = some u → w.cell? ((⟨g, 0, none⟩ : Addr).add j) = some u := cg.cells (g := g) rfl
   have H1 := run_append_grow (P := P) w t ty e i z ht hi hz ⟨g, 0, none⟩ n cap xs cg.1 holds a m c news hl oH (by omega) (by omega) (growslice_fits (by omega) hb)
   rw [H1] at hr
   injection hr with e1 e2
   subst e1
   exact .inr ⟨w.heap.size, rfl, Nat.le_refl _⟩
theorem bd {P : Program} (w : World) {ops : Array Oper} {rest : List Oper} {o : Oper} {a : Act} {Q : Exit → Act → World → Prop} (hgd : o.guard = none) (sl x : Operand) (t : TypeId)
  (ho : o.op = .call { callee := .builtin .append, args := #[sl, x], argTypes := #[t, t] })
  (base : Nat) (e : TypeId) (i : TypeInfo) (z : Value) (size bytes : Nat) (ht : P.underlying t = some (.slice e)) (hi : P.info? e = some i) (hz : i.zero = some z)
  (yI : i.size = size) (OI : i.bytes = bytes) (Qy : z.cells.size = size) (bS : 0 < size)
  (v : Value) (n : Nat) (xs : List Value) (hs : a.eval sl = v) (cg : w.ownsRow base e size v n xs)
  (ad : Addr) (m c : Nat) (news : List Value) (hx : a.eval x = .slice (some ad) m c) (hl : news.length = m * size) (oH : ∀ j u, news[j]? = some u → w.cell? (ad.add j) = some u) (h1 : ∀ u ∈ news, u.oneCell' = true)
  (Sk : n + m ≤ maxLen) (MG : (n + m) * bytes ≤ 140737488355328) (Ep : base ≤ w.heap.size)
  (h : ∀ v' w', Hid (w'.ownsRow base e size v' (n + m) (xs ++ news)) → Hid (w.grownBy w' v.ownBlock) → Hid (v'.ownBlock = v.ownBlock ∨ ∃ k, v'.ownBlock = some k ∧ w.heap.size ≤ k) → Hid (∃ a c, v' = .slice a (n + m) c) → wpList P ops Q rest (a.put o.dst v') w') : wpList P ops Q (o :: rest) a w := by
 refine wpList_plain hgd fun K hK => ?_
 obtain ⟨v', w', hr, h2, h3, h4, h5⟩ := jE (P := P) w base t o.type e i z size bytes ht hi hz yI OI Qy bS v n xs cg ad m c news hl oH h1 Sk MG Ep
 unfold Oper.wp execOp
 simp only [ho, resolve, invoke, builtin, Sem.run_bind, Sem.run_pure, Result.andThen_ok, List.map_toArray, List.map_cons, List.map_nil, hs, hx, hr]
 exact hK _ _ (h v' w' h2 h3 h4 h5)
theorem ED {K : SK} (hK : K.Ok) {w : World} {vv : Value} {code place deep ret loops outs : Int} {zs : List Int} {vs : List Vr} (h : SRaw K w vv code place deep ret loops outs zs vs) (c : Int) (p : Nat) :
  Calls Tryz.prog 46 #[.pointer (some ⟨K.cb, 0, none⟩), .int .i64 c, .int .i64 p] w fun e w' => e = .returned (.tuple #[]) ∧ SRaw K w' vv (if code = 0 then c else code) (if code = 0 then (p : Int) else place) deep ret loops outs zs vs ∧ Kept (fun k => k = K.cb) w w' := by
 obtain ⟨k0, k1, k2, k3, k4, k5, k6, k7, k8, k9, qG, pN⟩ := h.cells
 have f5 := h.free 5
 have f6 := h.free 6
 have HR := aa h
 clear h k0 k1 k2 k3 k4 k7 k8 k9 qG pN
 by_cases hz : code = 0
 ·subst hz
  go_enter Tryz.func46, Tryz.ntmps46
  go_wp2
  go_end0
  have r1 := HR.out.set hK (i := 5) (u := .int .i64 c) (code' := c) (place' := place) (deep' := deep) (ret' := ret) (loops' := loops) (outs' := outs) rfl
  have r2 := r1.set hK (i := 6) (u := .int .i64 p) (code' := c) (place' := p) (deep' := deep) (ret' := ret) (loops' := loops) (outs' := outs) rfl
  exact ⟨rfl, r2, (Kept.setCell (S := fun k => k = K.cb) ⟨K.cb, 5, none⟩ _ rfl).trans (Kept.setCell (S := fun k => k = K.cb) ⟨K.cb, 6, none⟩ _ rfl) (fun _ _ h => h)⟩
 ·have hz' : (code == 0) = false := bn hz
  go_enter Tryz.func46, Tryz.ntmps46
  go_wp2
  go_end0
  exact ⟨rfl, HR.out, Kept.refl _ _⟩
end Go.Proofs.YteaocammohcgoaaGreatDoor
