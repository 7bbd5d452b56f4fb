import Derived.Test.YteaocammohcgoaaGreatDoorVKaBase
import Derived.BigQuiet
import Derived.Deep.RegionWith
set_option linter.unusedVariables false
set_option maxHeartbeats 16000000
set_option maxRecDepth 100000
namespace Go.Proofs.YteaocammohcgoaaGreatDoor
open Go.RowKit
variable {G : Prop}
theorem bG0 (h : G := by
 obtain ⟨s1, h3, h4⟩ := bt h1
 injection h4 with h4; subst h4
 have := nu (g := fun i => (T.kids i).size) (fun i hi => (ih i hi (he i hi)).want _) lr _ _ h3
 exact ⟨this.1, by rw [this.2]; omega⟩) : G := h
theorem bG1 (h : G := by
 obtain ⟨s1, h3, h4⟩ := bt h1
 injection h4 with h4; subst h4
 have := aV 0 (by omega) he _ _ _ h3
 rw [hl] at hz; simp only [ar] at hz
 exact ⟨this.1, by rw [this.2]; omega⟩) : G := h
theorem bG2 (h : G := by
 have ht := aP s
 have P5 : (ae s).1 = s.1 := rfl
 rw [a1, P5]
 exact ⟨rfl, rfl, by omega, by omega⟩) : G := h
theorem bG3 (h : G := by
 rw [hl] at hz; simp only [ar] at hz
 exact ⟨rfl, by show (ae s).2.length = _; omega⟩) : G := h
theorem bG4 (h : G := by
 rw [hz]; exact ((hE 0 (by omega) he).want _).st.take s s' hs e) : G := h
theorem iD (g j : Nat) : (⟨g, 0, none⟩ : Addr).add j = ⟨g, j, none⟩ := by
 unfold Addr.add
 split
 ·rename_i h; subst h; rfl
 ·simp
theorem dM {w w' : World} {base : Nat} {e : TypeId} {size n : Nat} {v : Value} {xs : List Value} (h : w.ownsRow base e size v n xs) (hb : ∀ k, v.ownBlock = some k → w'.heap[k]? = w.heap[k]?) : w'.ownsRow base e size v n xs := by
 refine ⟨h.1, ?_⟩
 rcases h.2 with h | ⟨g, cap, cur, rfl, h2, h3, h4⟩
 ·exact .inl h
 ·exact .inr ⟨g, cap, cur, rfl, h2, (hb g rfl).trans h3, h4⟩
def vK (T : Nd) : Prop := ∀ (w : World) (v : Value) (hi : Nat), T.Fine → hi ≤ w.heap.size → Row 0 hi w T v → T.cost ≤ 1048576 →
 Calls Tryz.prog 43 #[T.val v] w fun e w' => e = .returned (.int .i64 (T.size : Int)) ∧ Below w.heap.size w w'
theorem pQ (T : Nd) (ih : ∀ i, i < T.len → vK (T.kids i)) : vK T := by
 intro w v hi hf dF hr fr
 have hn := T.fine_len hf
 have hz := T.size_cost
 have hze := T.size_eq
 have Qg : ∀ j, j < T.len → (T.kids j).cost ≤ 1048576 := fun j hj => Nat.le_trans (T.cost_kid hj) fr
 obtain ⟨a, cap, rfl, cr, hq⟩ := aH.1 hr
 clear cr
 have HI := aa ih
 have HF := aa hf
 have HR := aa hq
 have HK := aa Qg
 clear hr hf ih hq Qg
 have aM : ∀ j, j < T.len → ar (fun i => (T.kids i).size) j + (T.kids j).size ≤ ar (fun i => (T.kids i).size) T.len := fun j hj => jO _ hj
 have cy : ∀ j, ar (fun i => (T.kids i).size) (j + 1) = ar (fun i => (T.kids i).size) j + (T.kids j).size := fun j => rfl
 have h00 : ar (fun i => (T.kids i).size) 0 = 0 := rfl
 generalize ar (fun i => (T.kids i).size) = S at *
 have mX := aa aM
 have iu := aa cy
 clear aM cy
 unfold Nd.val
 generalize T.kind = tk
 generalize T.num = tn
 generalize T.name = ts
 have HB : ∀ a : Obj, Hid (Below w.heap.size w (w.alloc a)) := fun a => bA
 go_enter Tryz.func43, Tryz.ntmps43
 go_wp2
 go_loopw [3, 4] (fun k i wr => ∃ (j : Nat), j ≤ T.len ∧ i = .int .i64 j ∧ k = .int .i64 ((1 + S j : Nat) : Int) ∧ Below (w.heap.size + 1) (w.alloc (.cells #[.int .i64 tk, .int .i64 tn, .string ts, .slice a T.len cap] 25)) wr) (fun _ i _ => T.len - (intOf i).toNat)
 case atStart => exact ⟨0, by omega, rfl, by simp [h00], Below.refl _ _⟩
 case round =>
  obtain ⟨j, hj, rfl, rfl, hb⟩ := hrel
  have k3 : wr.cell? ⟨w.heap.size, 3, none⟩ = some (.slice a T.len cap) := by
   rw [hb.cell (p := ⟨w.heap.size, 3, none⟩) (by show w.heap.size < _; omega)]; simp
  have fC := (HB (.cells #[.int .i64 tk, .int .i64 tn, .string ts, .slice a T.len cap] 25)).out.trans (hb.mono (by omega))
  have Bp := fC.size
  by_cases bN : j < T.len
  ·rcases HR.out with h0 | ⟨g, off, rfl, h1, h2, h3⟩
   ·omega
   obtain ⟨u, e0, e1, e2, e3, hu⟩ := h3 j bN
   have iM : g < w.heap.size := by omega
   rw [← fC.cell (p := ⟨g, _, none⟩) iM] at e0 e1 e2 e3
   have HU := aa (ah fC dF hu)
   have E3 := mX.out j bN
   have Ln := iu.out j
   have hkc := HK.out j bN
   have HC := HI.out j bN
   have yB := aa (Nd.fine_kid HF.out bN)
   unfold vK Nd.val at HC
   have qR := aa HC
   clear h3 HC hu
   generalize T.kids j = K at *
   go_wp2_with (go_at_call 43; refine (qR.out _ _ hi yB.out (by omega) HU.out (by omega)).mono ?_; rintro e w1 ⟨rfl, hb1⟩)
   have fP : w.heap.size + 1 ≤ wr.heap.size := by have := hb.size; simpa using this
   exact ⟨⟨j + 1, by omega, by go_num, by rw [Ln]; congr 1; omega, hb.trans (hb1.mono fP)⟩, by simp [intOf]; omega⟩
  ·go_wp2
   go_ret
   obtain rfl : j = T.len := by omega
   exact ⟨ix (by omega), fC⟩
theorem yX (T : Nd) : vK T := by
 induction T with
 |nil => exact pQ _ fun i hi => absurd hi (Nat.not_lt_zero i)
 |mk k n s len kids ih => exact pQ _ fun i _ => ih i
def Kw (w : World) (lo : Nat) (v : Value) (n : Nat) (f : Nat → Int) : Prop :=
 ∃ a cap, v = .slice a n cap ∧ n ≤ cap ∧ cap ≤ 9223372036854775807 ∧ (n = 0 ∨ ∃ g off, a = some ⟨g, off, none⟩ ∧ lo ≤ g ∧ g < w.heap.size ∧ ∀ i, i < n → w.cell? ⟨g, off + i, none⟩ = some (.int .i64 (f i)))
def aW (T : Nd) (at' : Nat) (i : Nat) : Nat := at' + 1 + ar (fun j => (T.kids j).size) i
theorem o8 (T : Nd) (at' : Nat) : aW T at' 0 = at' + 1 := rfl
theorem eS (T : Nd) (at' i : Nat) : aW T at' (i + 1) = aW T at' i + (T.kids i).size := by simp only [aW, ar]; omega
theorem lV (T : Nd) (at' : Nat) : aW T at' T.len = at' + T.size := by unfold aW; rw [T.size_eq]; omega
theorem bV (T : Nd) (at' : Nat) {i : Nat} (h : i < T.len) : aW T at' i + (T.kids i).size ≤ at' + T.size := by
 rw [← lV T at']; have := jO (fun j => (T.kids j).size) h; unfold aW; omega
def nn (T : Nd) (at' : Nat) : Nat → List Int
 |0 => []
 |n + 1 => nn T at' n ++ [(aW T at' n : Int)]
theorem lU (T : Nd) (at' n : Nat) : (nn T at' n).length = n := by
 induction n with
 |zero => rfl
 |succ n ih => simp [nn, ih]
theorem uK (T : Nd) (at' : Nat) : ∀ {n i : Nat}, i < n → (nn T at' n)[i]? = some (aW T at' i : Int)
 |n + 1, i, h => by
  simp only [nn]
  by_cases e : i < n
  ·rw [List.getElem?_append_left (by rw [lU]; exact e)]; exact uK T at' e
  ·obtain rfl : i = n := by omega
   rw [List.getElem?_append_right (by rw [lU]; exact Nat.le_refl _), lU]; simp
theorem Ee : (Tryz.prog.info? 3).map (fun i => (i.zero, i.size, i.bytes)) = some (some (.int .i64 0), 1, 8) := by kernel_rfl
theorem JS {W w : World} {lo : Nat} {v : Value} {n : Nat} {xs : List Int} (h : w.ownsRow lo 3 1 v n (xs.map (Value.int .i64))) (f : Nat → Int) (hx : ∀ i, i < n → xs[i]? = some (f i)) : Kw w lo v n f := by
 have hc := h
 rcases h.2 with ⟨rfl, e⟩ | ⟨g, cap, cur, rfl, h2, h3, h4, h5, h6⟩
 ·exact ⟨none, 0, by rw [e], by omega, by omega, .inl e⟩
 ·refine ⟨_, cap, rfl, h4, by unfold maxLen at h5; omega, .inr ⟨g, 0, rfl, h2, (Array.getElem?_eq_some_iff.1 h3).1, fun i hi => ?_⟩⟩
  have := hc.cells (g := g) rfl i (.int .i64 (f i)) (by rw [List.getElem?_map, hx i hi]; rfl)
  rw [iD] at this
  rw [Nat.zero_add]; exact this
theorem ib (T : Nd) (w : World) (v : Value) (hi at' : Nat) (hf : T.Fine) (dF : hi ≤ w.heap.size) (hr : Row 0 hi w T v) (fr : T.cost ≤ 1048576) (IV : at' ≤ 1099511627776) :
    Calls Tryz.prog 44 #[T.val v, .int .i64 at'] w fun e w' => ∃ u, e = .returned u ∧ Kw w' w.heap.size u T.len (fun i => (aW T at' i : Int)) ∧ Below w.heap.size w w' := by
  have hn := T.fine_len hf
  have hz := T.size_cost
  have hcz := T.cost_eq
  have Qg : ∀ j, j < T.len → (T.kids j).cost ≤ 1048576 := fun j hj => Nat.le_trans (T.cost_kid hj) fr
  obtain ⟨a, cap, rfl, cr, hq⟩ := aH.1 hr
  obtain ⟨i0, lq, oQ, eT, ed⟩ := info_parts Ee
  have Ch := o8 T at'
  have LH := aa (eS T at')
  have PC := aa (fun i (h : i < T.len) => bV T at' h)
  have HNL := aa (lU T at')
  have HF := aa hf
  have HR := aa hq
  have HK := aa Qg
  have hlen : T.len ≤ 1048576 := by omega
  have b8 : T.size ≤ 1048577 := by omega
  clear hr hf hq Qg cr hcz
  unfold Nd.val
  generalize T.kind = tk
  generalize T.num = tn
  generalize T.name = ts
  go_enter Tryz.func44, Tryz.ntmps44
  go_wp2
  have fp : Hid (Below w.heap.size w (w.alloc (.cells #[.int .i64 tk, .int .i64 tn, .string ts, .slice a T.len cap] 25))) := bA
  go_loopw [1, 5, 6] (fun at1 out i wr => ∃ (j : Nat) (sa : Option Addr) (sc : Nat), j ≤ T.len ∧ i = .int .i64 j ∧ at1 = .int .i64 (aW T at' j : Nat) ∧ out = .slice sa j sc ∧ wr.ownsRow (w.heap.size + 1) 3 1 (.slice sa j sc) j ((nn T at' j).map (Value.int .i64)) ∧ Below (w.heap.size + 1) (w.alloc (.cells #[.int .i64 tk, .int .i64 tn, .string ts, .slice a T.len cap] 25)) wr) (fun _ _ i _ => T.len - (intOf i).toNat)
  case atStart =>
    refine ⟨0, _, _, by omega, rfl, by rw [Ch]; rfl, rfl, ?_, ?_⟩
    · have hh := World.ownsRow_made (base := w.heap.size + 1) (e := 3) (size := 1) (w.alloc (.cells #[.int .i64 tk, .int .i64 tn, .string ts, .slice a T.len cap] 25)) #[] 0 (by simp) (by unfold maxLen; omega) (by simp)
      simpa [nn] using hh
    · refine (Below.refl _ _).alloc ?_ _
      simp
  case round =>
    obtain ⟨j, sa, sc, hj, rfl, rfl, rfl, cY, hb⟩ := hrel
    have k3 : wr.cell? ⟨w.heap.size, 3, none⟩ = some (.slice a T.len cap) := by
      rw [hb.cell (p := ⟨w.heap.size, 3, none⟩) (by show w.heap.size < _; omega)]; simp
    have fP : w.heap.size + 1 ≤ wr.heap.size := by have := hb.size; simpa using this
    have Pv := aa cY
    have HB := aa hb
    clear cY hb
    by_cases bN : j < T.len
    · rcases HR.out with h0 | ⟨g, off, rfl, h1, h2, h3⟩
      · omega
      obtain ⟨u, e0, e1, e2, e3, hu⟩ := h3 j bN
      have iM : g < w.heap.size := by omega
      have E3 := PC.out j bN
      have Ln := LH.out j
      have hkc := HK.out j bN
      have yB := aa (Nd.fine_kid HF.out bN)
      have HC := yX (T.kids j)
      unfold vK Nd.val at HC
      have qR := aa HC
      have HU := aa hu
      have K2 : nn T at' (j + 1) = nn T at' j ++ [(aW T at' j : Int)] := rfl
      clear h3 HC hu
      have HE : Hid (w.cell? ⟨g, off + j * 4, none⟩ = some (.int .i64 (T.kids j).kind) ∧ w.cell? ⟨g, off + j * 4 + 1, none⟩ = some (.int .i64 (T.kids j).num) ∧ w.cell? ⟨g, off + j * 4 + 2, none⟩ = some (.string (T.kids j).name) ∧ w.cell? ⟨g, off + j * 4 + 3, none⟩ = some u) := ⟨e0, e1, e2, e3⟩
      clear e0 e1 e2 e3
      have HNS := aa K2
      clear K2
      generalize T.kids j = K at *
      generalize hk : aW T at' j = kj at *
      go_wp2_with (first
        | (at_builtin; refine wpList_append_own _ rfl _ _ 29 rfl (w.heap.size + 1) 3 i0 (.int .i64 0) 1 8 Tryz.underlying29 lq oQ eT ed rfl (by decide) _ j _ rfl (Pv.out.alloc _) ⟨wr.heap.size, 0, none⟩ 1 1 [.int .i64 (kj : Int)] rfl rfl (by intro i u hu; rcases i with _ | i <;> simp_all [Addr.add]) (by intro u hu; simp at hu; subst hu; rfl) (by unfold maxLen; omega) (by omega) (by simp; omega) ?_
           intro v' w3 mn aX EB
           have fC : Below (w.heap.size + 1) (w.alloc (.cells #[.int .i64 tk, .int .i64 tn, .string ts, .slice (some ⟨g, off, none⟩) T.len cap] 25)) w3 := (HB.out.alloc fP _).grown aX (by simp; omega) (fun k hk => ((Pv.out.alloc (.cells #[.int .i64 (kj : Int)] 3)).lt k hk).1)
           have u7 := fp.out.trans (fC.mono (Nat.le_succ _))
           obtain ⟨e0, e1, e2, e3⟩ := HE.out
           rw [← u7.cell (p := ⟨g, _, none⟩) iM] at e0 e1 e2 e3
           have k3 : w3.cell? ⟨w.heap.size, 3, none⟩ = some (.slice (some ⟨g, off, none⟩) T.len cap) := by
             rw [fC.cell (p := ⟨w.heap.size, 3, none⟩) (by show w.heap.size < _; omega)]; simp
           have HU3 := aa (ah u7 dF HU.out)
           have HO3 := aa mn
           have Kg := aa fC
           have bY := u7.size
           clear mn aX EB fC u7)
        | (go_at_call 43; refine (qR.out _ _ hi yB.out (by omega) HU3.out (by omega)).mono ?_; rintro e w1 ⟨rfl, hb1⟩))
      obtain ⟨sa', sc', rfl⟩ : ∃ sa' sc', v' = .slice sa' (j + 1) sc' := by
        rcases HO3.out.2 with ⟨rfl, h⟩ | ⟨g, cp, cur, rfl, _⟩
        · omega
        · exact ⟨_, _, rfl⟩
      have mJ : w.heap.size + 1 ≤ w3.heap.size := by have := Kg.out.size; simpa using this
      refine ⟨⟨j + 1, sa', sc', by omega, by go_num, by rw [Ln]; go_num, rfl, ?_, Kg.out.trans (hb1.mono mJ)⟩, by simp [intOf]; omega⟩
      rw [HNS.out, List.map_append]
      exact dM HO3.out fun k hk => hb1.block k (HO3.out.lt k hk).2
    · go_wp2
      go_ret
      obtain rfl : j = T.len := by omega
      refine ⟨_, rfl, ?_, fp.out.trans (HB.out.mono (Nat.le_succ _))⟩
      have := JS (W := w) Pv.out (fun i => (aW T at' i : Int)) fun i hi => uK T at' hi
      obtain ⟨a1, c1, e1, e2, e3, e4⟩ := this
      refine ⟨a1, c1, e1, e2, e3, ?_⟩
      rcases e4 with h | ⟨g, off, h5, h6, h7⟩
      · exact .inl h
      · exact .inr ⟨g, off, h5, by omega, h7⟩
abbrev Sc := List (List (ByteArray × Int))
abbrev CS := Sc × List Int
abbrev CR (α : Type) := Except (Int × Nat) α
def CR.bind {α β : Type} (r : CR α) (f : α → CR β) : CR β := match r with | .error e => .error e | .ok a => f a
theorem CR.bind_ok {α β : Type} (a : α) (f : α → CR β) : CR.bind (.ok a) f = f a := rfl
theorem CR.bind_error {α β : Type} (e : Int × Nat) (f : α → CR β) : CR.bind (.error e : CR α) f = .error e := rfl
def me (l : List (ByteArray × Int)) (s : ByteArray) : Int := match l.find? (fun p => decide (p.1 = s)) with | some p => p.2 | none => 0
def look (E : Sc) (s : ByteArray) : Int := me E.flatten s
def oC (E : Sc) (s : ByteArray) : Bool := match E with | [] => false | l :: _ => l.any (fun p => decide (p.1 = s))
def fZ (E : Sc) (s : ByteArray) (t : Int) : Sc := match E with | [] => [[(s, t)]] | l :: E => ((s, t) :: l) :: E
def forN {σ : Type} (f : Nat → σ → CR σ) : Nat → σ → CR σ
 |0, s => .ok s
 |n + 1, s => CR.bind (forN f n s) (f n)
abbrev qI := CS → CR (Int × CS)
def ae (s : CS) : CS := (s.1, s.2 ++ [0])
def cN (m : qI) : qI := fun s => CR.bind (m s) fun r => if r.1 = 0 then .error (9, s.2.length) else .ok r
def aE (m : qI) (t : Int) : CS → CR CS := fun s => CR.bind (cN m s) fun r => if r.1 = t then .ok r.2 else .error (7, s.2.length)
def yc (s : ByteArray) : Bool := hasB [⟨#[61, 61]⟩, ⟨#[33, 61]⟩] s
def qU (s : ByteArray) : Bool := hasB [⟨#[33]⟩] s
def dp (F : Nd) (s : ByteArray) : Nat → Option Nat
 |0 => none
 |n + 1 => match dp F s n with | some i => some i | none => if (F.kids n).name = s then some n else none
def findF (F : Nd) (s : ByteArray) : Option Nat := dp F s F.len
def bI (F : Nd) (k : Int) (name : ByteArray) (len : Nat) (kids : Nat → qI) (s : CS) (at' : Nat) : CR (Int × CS) :=
 if k = 22 then .ok (1, s)
 else if k = 23 then .ok (2, s)
 else if k = 24 then (if look s.1 name = 0 then .error (5, at') else .ok (look s.1 name, s))
 else if k = 25 then
  match findF F name with
  |none => .error (5, at')
  |some j => if len + 1 = (F.kids j).len then CR.bind (forN (fun i => aE (kids i) ((F.kids j).kids i).num) len s) fun s1 => .ok ((F.kids j).num, s1) else .error (8, at')
 else if k = 26 then CR.bind (forN (fun i => aE (kids i) 1) len s) fun s1 => .ok (3, s1)
 else if k = 27 then CR.bind (aE (kids 0) (if qU name then 2 else 1) s) fun s1 => .ok (if qU name then 2 else 1, s1)
 else if k = 29 then CR.bind (aE (kids 0) 3 s) fun s1 => .ok (1, s1)
 else if yc name then CR.bind (cN (kids 0) s) fun r => CR.bind (aE (kids 1) r.1 r.2) fun s2 => .ok (2, s2)
 else CR.bind (aE (kids 0) (if iU name = 1 ∨ iU name = 2 then 2 else 1) s) fun s1 =>
  CR.bind (aE (kids 1) (if iU name = 1 ∨ iU name = 2 then 2 else 1) s1) fun s2 =>
   .ok (if iU name = 1 ∨ iU name = 2 ∨ iU name = 3 then 2 else 1, s2)
def NZ (F : Nd) (k : Int) (name : ByteArray) (len : Nat) (kids : Nat → qI) : qI := fun s =>
 CR.bind (bI F k name len kids (ae s) s.2.length) fun r => .ok (r.1, (r.2.1, r.2.2.set s.2.length r.1))
def bP (F : Nd) : Nd → qI
 |.nil => fun s => .ok (0, ae s)
 |.mk k _ name len kids => NZ F k name len (fun i => bP F (kids i))
theorem qk (F : Nd) {T : Nd} (h : T.eOk = true) : bP F T = NZ F T.kind T.name T.len (fun i => bP F (T.kids i)) := by cases T with | nil => simp [Nd.eOk, xg] at h | mk => rfl
structure Cx where
 ret : Int
 loops : Nat
 outs : Nat
abbrev Lz := Cx → CS → CR CS
def within (l : List (ByteArray × Int)) (m : CS → CR CS) : CS → CR CS := fun s => CR.bind (m (l :: s.1, s.2)) fun s1 => .ok (s1.1.tail, s1.2)
def oA (len : Nat) (kids : Nat → Lz) : Lz := fun cx s => forN (fun i => kids i cx) len (ae s)
def fQ (p : Nat → Bool) : Nat → Bool
 |0 => false
 |n + 1 => fQ p n || p n
structure Mn where
 st : Lz
 sts : Lz
 cs : Bool → Lz
def stM (F : Nd) (k : Int) (name : ByteArray) (len : Nat) (num : Nat → Int) (ex : Nat → qI) (kids : Nat → Mn) : Lz := fun cx s =>
 if k = 4 then within [] (oA len (fun i => (kids i).st) cx) s
 else if k = 5 then CR.bind (cN (ex 0) (ae s)) fun r => if oC r.2.1 name then .error (6, s.2.length) else .ok (fZ r.2.1 name r.1, r.2.2)
 else if k = 6 then (if look s.1 name = 0 then .error (5, s.2.length) else aE (ex 0) (look s.1 name) (ae s))
 else if k = 7 then (if look s.1 name = 0 then .error (5, s.2.length) else if look s.1 name = 1 then .ok (ae s) else .error (7, s.2.length))
 else if k = 8 then CR.bind (aE (ex 0) 3 (ae s)) (aE (ex 1) 1)
 else if k = 9 ∨ k = 13 ∨ k = 14 then CR.bind (ex 0 (ae s)) fun r => .ok r.2
 else if k = 10 then CR.bind (aE (ex 0) 2 (ae s)) (forN (fun i => (kids (i + 1)).st cx) (len - 1))
 else if k = 11 then CR.bind (if len = 2 then aE (ex 0) 2 (ae s) else .ok (ae s)) ((kids (len - 1)).st { cx with loops := cx.loops + 1, outs := cx.outs + 1 })
 else if k = 12 then (if decide (0 < len) = decide (cx.ret ≠ 0) then (if 0 < len then aE (ex 0) cx.ret (ae s) else .ok (ae s)) else .error (9, s.2.length))
 else if k = 15 then forN (fun i => (kids i).cs (fQ (fun j => decide (num j = 0)) i) { cx with outs := cx.outs + 1 }) len (ae s)
 else if k = 17 then (if cx.outs = 0 then .error (10, s.2.length) else .ok (ae s))
 else if k = 18 then (if cx.loops = 0 then .error (10, s.2.length) else .ok (ae s))
 else if k = 19 then aE (ex 0) 3 (ae s)
 else if k = 20 then CR.bind (cN (ex 0) (ae s)) fun r => if r.1 = 3 then .error (7, s.2.length + 1) else .ok r.2
 else if k = 21 then aE (ex 0) 1 (ae s)
 else .ok (ae s)
def Gj (n : Int) (name : ByteArray) (len : Nat) (ex : Nat → qI) (kids : Nat → Mn) (found : Bool) : Lz := fun cx s =>
 if n = 0 ∧ found = true then .error (6, s.2.length)
 else CR.bind (if 0 < n then aE (ex 0) 3 (ae s) else .ok (ae s)) fun s1 =>
  CR.bind (if n = 2 then aE (ex 1) 1 s1 else .ok s1) fun s2 =>
   within (if ao name then [] else [(name, 1)]) ((kids (len - 1)).sts cx) s2
def b7 (F : Nd) : Nd → Mn
  | .nil => ⟨fun _ s => .ok s, fun _ s => .ok s, fun _ _ s => .ok s⟩
  | .mk k n name len kids =>
    ⟨stM F k name len (fun i => (kids i).num) (fun i => bP F (kids i)) (fun i => b7 F (kids i)),
     oA len (fun i => (b7 F (kids i)).st),
     Gj n name len (fun i => bP F (kids i)) (fun i => b7 F (kids i))⟩
def cV : Nd → Bool
 |.nil => false
 |.mk k _ _ len kids => if k = 17 then true else if k = 11 ∨ k = 15 then false else fQ (fun i => cV (kids i)) len
def fA : Nd → Bool
 |.nil => false
 |.mk k _ _ len kids =>
  if k = 12 ∨ k = 21 then true
  else if k = 4 then decide (0 < len) && fA (kids (len - 1))
  else if k = 10 then decide (len = 3) && (fA (kids 1) && fA (kids 2))
  else if k = 11 then decide (len = 1) && !cV (kids 0)
  else false
def mH (T : Nd) (i : Nat) : CS → CR CS := fun s => if oC s.1 (T.kids i).name then .error (6, s.2.length) else .ok (fZ s.1 (T.kids i).name (T.kids i).num, s.2 ++ [0])
def jc (F T : Nd) : List Int → CR (List Int) := fun X =>
 CR.bind (forN (mH T) (T.len - 1) ([[]], X ++ [0])) fun s1 =>
  CR.bind ((b7 F (T.kids (T.len - 1))).sts ⟨T.num, 0, 0⟩ s1) fun s2 =>
   if T.num ≠ 0 ∧ fA (T.kids (T.len - 1)) = false then .error (9, X.length) else .ok s2.2
def dz (F : Nd) (i : Nat) : Unit → CR Unit := fun _ => if findF F (F.kids i).name = some i then .ok () else .error (6, 1 + ar (fun j => (F.kids j).size) i)
def dC (F : Nd) : CR (List Int) :=
 CR.bind (forN (dz F) F.len ()) fun _ => forN (fun i => jc F (F.kids i)) F.len [0]
def Nd.sizes (T : Nd) (n : Nat) : Nat := ar (fun i => (T.kids i).size) n
theorem vo {σ : Type} {f : Nat → σ → CR σ} {m : σ → Nat} {g : Nat → Nat} {P : σ → Prop} {n : Nat} (h : ∀ i s s', i < n → P s → f i s = .ok s' → m s' = m s + g i ∧ P s') :
  ∀ {k : Nat}, k ≤ n → ∀ {s s' : σ}, P s → forN f k s = .ok s' → m s' = m s + ar g k ∧ P s'
 |0, _, s, s', hp, e => by injection e with e; subst e; exact ⟨rfl, hp⟩
 |k + 1, hk, s, s', hp, e => by
  rw [forN] at e
  cases hr : forN f k s with
  |error x => rw [hr] at e; cases e
  |ok s1 =>
   rw [hr, CR.bind_ok] at e
   obtain ⟨h1, h2⟩ := vo h (Nat.le_of_succ_le hk) hp hr
   obtain ⟨h3, h4⟩ := h k s1 s' hk h2 e
   exact ⟨by simp only [ar]; omega, h4⟩
theorem jt {e st : Nat → Bool} {kk : Nat → Int} {len : Nat} {s : ByteArray} (h : aK e st kk len s = true) : len = s.size ∧ ∀ i, i < s.size → cq e st kk (s.data.toList.getD i 0).toNat i = true := by
 unfold aK at h
 simp only [Bool.and_eq_true, decide_eq_true_eq] at h
 exact ⟨h.1, dy.1 h.2⟩
theorem xn {e st : Nat → Bool} {kk : Nat → Int} {i : Nat} (h : cq e st kk 98 i = true) : kk i = 4 ∧ st i = true := by
 simp [cq] at h; exact h
theorem ko_i {e st : Nat → Bool} {kk : Nat → Int} {i : Nat} (h : cq e st kk 105 i = true) : (kk i = 4 ∨ kk i = 10) ∧ st i = true := by
 simp [cq] at h; exact h
theorem sX {e st : Nat → Bool} {kk : Nat → Int} {i : Nat} (h : cq e st kk 101 i = true) : e i = true := by
 simpa [cq] using h
theorem ko_c {e st : Nat → Bool} {kk : Nat → Int} {i : Nat} (h : cq e st kk 99 i = true) : e i = true := by
 simp [cq] at h; exact h.2
theorem nl {e st : Nat → Bool} {kk : Nat → Int} {len : Nat} (h : aK e st kk len ⟨#[101]⟩ = true) : len = 1 ∧ e 0 = true := ⟨(jt h).1, sX ((jt h).2 0 (by decide))⟩
theorem KK {e st : Nat → Bool} {kk : Nat → Int} {len : Nat} (h : aK e st kk len ⟨#[99]⟩ = true) : len = 1 ∧ e 0 = true := ⟨(jt h).1, ko_c ((jt h).2 0 (by decide))⟩
theorem KJ {e st : Nat → Bool} {kk : Nat → Int} {len : Nat} (h : aK e st kk len ⟨#[101, 101]⟩ = true) : len = 2 ∧ e 0 = true ∧ e 1 = true := ⟨(jt h).1, sX ((jt h).2 0 (by decide)), sX ((jt h).2 1 (by decide))⟩
theorem tE {T : Nd} (h : T.eOk = true) : T.kind = 22 ∨ T.kind = 23 ∨ T.kind = 24 ∨ T.kind = 25 ∨ T.kind = 26 ∨ T.kind = 27 ∨ T.kind = 28 ∨ T.kind = 29 := by
 rw [de] at h
 unfold cH at h
 repeat' split at h
 all_goals first | omega | cases h
theorem tD {T : Nd} (hk : T.kind = 22 ∨ T.kind = 23 ∨ T.kind = 24) (h : T.eOk = true) : T.len = 0 := by
 rw [de] at h
 rcases hk with hk | hk | hk <;> rw [hk] at h <;> simp [cH] at h
 ·exact h.2.2
 ·exact h.2.2
 ·exact h.2.2
theorem Fh {T : Nd} (hk : T.kind = 25) (h : T.eOk = true) : ∀ i, i < T.len → (T.kids i).eOk = true := by
 rw [de, hk] at h
 simp [cH] at h
 exact dy.1 h.2.2
theorem zD {T : Nd} (hk : T.kind = 26) (h : T.eOk = true) : T.len < 2 ∧ ∀ i, i < T.len → (T.kids i).eOk = true := by
 rw [de, hk] at h
 simp [cH] at h
 exact ⟨h.2.1, dy.1 h.2.2⟩
theorem zC {T : Nd} (hk : T.kind = 27) (h : T.eOk = true) : T.len = 1 ∧ (T.kids 0).eOk = true := by
 rw [de, hk] at h
 simp [cH] at h
 exact nl h.2.2
theorem Fg {T : Nd} (hk : T.kind = 29) (h : T.eOk = true) : T.len = 1 ∧ (T.kids 0).eOk = true := by
 rw [de, hk] at h
 simp [cH] at h
 exact nl h.2
theorem vx {T : Nd} (hk : T.kind = 28) (h : T.eOk = true) : 0 < iU T.name ∧ T.len = 2 ∧ (T.kids 0).eOk = true ∧ (T.kids 1).eOk = true := by
 rw [de, hk] at h
 simp [cH] at h
 exact ⟨h.2.1, KJ h.2.2⟩
theorem sN {T : Nd} (h : T.sOk = true) : T.kind = 4 ∨ T.kind = 5 ∨ T.kind = 6 ∨ T.kind = 7 ∨ T.kind = 8 ∨ T.kind = 9 ∨ T.kind = 10 ∨ T.kind = 11 ∨ T.kind = 12 ∨ T.kind = 13 ∨ T.kind = 14 ∨ T.kind = 15 ∨ T.kind = 17 ∨ T.kind = 18 ∨ T.kind = 19 ∨ T.kind = 20 ∨ T.kind = 21 := by
 refine Classical.byContradiction fun hn => ?_
 simp only [not_or] at hn
 obtain ⟨h1, h2, h3, h4, h5, h6, h7, h8, h9, si, mW, sh, Ql, Qk, sf, NP, qO⟩ := hn
 rw [bK] at h
 simp [bd, h1, h2, h3, h4, h5, h6, h7, h8, h9, si, mW, sh, Ql, Qk, sf, NP, qO] at h
theorem AK {T : Nd} (hk : T.kind = 4) (h : T.sOk = true) : ∀ i, i < T.len → (T.kids i).sOk = true := by
 rw [bK, hk] at h
 simp [bd] at h
 exact dy.1 h.2
theorem mF {T : Nd} (hk : T.kind = 5 ∨ T.kind = 6 ∨ T.kind = 9 ∨ T.kind = 13 ∨ T.kind = 14 ∨ T.kind = 19 ∨ T.kind = 20 ∨ T.kind = 21) (h : T.sOk = true) : T.len = 1 ∧ (T.kids 0).eOk = true := by
 rw [bK] at h
 rcases hk with hk | hk | hk | hk | hk | hk | hk | hk <;> rw [hk] at h <;> simp [bd] at h
 ·exact nl h.2
 ·exact nl h.2
 ·exact nl h.2.1
 ·exact KK h.2
 ·exact KK h.2
 ·exact nl h.2
 ·exact nl h.2
 ·exact nl h.2
theorem sM {T : Nd} (hk : T.kind = 7 ∨ T.kind = 17 ∨ T.kind = 18) (h : T.sOk = true) : T.len = 0 := by
 rw [bK] at h
 rcases hk with hk | hk | hk <;> rw [hk] at h <;> simp [bd] at h
 ·exact h.2.2
 ·exact h.2
 ·exact h.2
theorem Ma {T : Nd} (hk : T.kind = 8) (h : T.sOk = true) : T.len = 2 ∧ (T.kids 0).eOk = true ∧ (T.kids 1).eOk = true := by
 rw [bK, hk] at h
 simp [bd] at h
 exact KJ h.2
theorem pD {T : Nd} (hk : T.kind = 10) (h : T.sOk = true) : (T.len = 2 ∨ T.len = 3) ∧ (T.kids 0).eOk = true ∧ ((T.kids 1).kind = 4 ∧ (T.kids 1).sOk = true) ∧ (T.len = 3 → ((T.kids 2).kind = 4 ∨ (T.kids 2).kind = 10) ∧ (T.kids 2).sOk = true) := by
 rw [bK, hk] at h
 simp only [bd, Int.reduceEq, if_true, if_false, or_self, Bool.and_eq_true, Bool.or_eq_true] at h
 rcases h.2 with h | h
 ·obtain ⟨h1, h2⟩ := jt h
  have h1 : T.len = 2 := h1
  exact ⟨.inl h1, sX (h2 0 (by decide)), xn (h2 1 (by decide)), fun h => by omega⟩
 ·obtain ⟨h1, h2⟩ := jt h
  have h1 : T.len = 3 := h1
  exact ⟨.inr h1, sX (h2 0 (by decide)), xn (h2 1 (by decide)), fun _ => ko_i (h2 2 (by decide))⟩
theorem Dl {T : Nd} (hk : T.kind = 11) (h : T.sOk = true) : (T.len = 1 ∧ (T.kids 0).kind = 4 ∧ (T.kids 0).sOk = true) ∨ (T.len = 2 ∧ (T.kids 0).eOk = true ∧ ((T.kids 1).kind = 4 ∧ (T.kids 1).sOk = true)) := by
 rw [bK, hk] at h
 simp only [bd, Int.reduceEq, if_true, if_false, or_self, Bool.and_eq_true, Bool.or_eq_true] at h
 rcases h.2 with h | h
 ·obtain ⟨h1, h2⟩ := jt h
  exact .inl ⟨h1, xn (h2 0 (by decide))⟩
 ·obtain ⟨h1, h2⟩ := jt h
  exact .inr ⟨h1, sX (h2 0 (by decide)), xn (h2 1 (by decide))⟩
theorem Dk {T : Nd} (hk : T.kind = 12) (h : T.sOk = true) : T.len = 0 ∨ (T.len = 1 ∧ (T.kids 0).eOk = true) := by
 rw [bK, hk] at h
 simp [bd] at h
 rcases h.2 with h | h
 ·exact .inl h
 ·exact .inr (nl h)
theorem Dj {T : Nd} (hk : T.kind = 15) (h : T.sOk = true) : ∀ i, i < T.len → (T.kids i).cOk = true := by
 rw [bK, hk] at h
 simp [bd] at h
 exact dy.1 h.2
theorem zH {T : Nd} (h : T.cOk = true) : T.kind = 16 ∧ ((T.num = 0 ∧ T.len = 1) ∨ (T.num = 1 ∧ T.len = 2 ∧ (T.kids 0).eOk = true) ∨ (T.num = 2 ∧ T.len = 3 ∧ (T.kids 0).eOk = true ∧ (T.kids 1).eOk = true)) ∧ (T.kids (T.len - 1)).kind = 4 ∧ (T.kids (T.len - 1)).sOk = true := by
 rw [mR] at h
 by_cases hk : T.kind = 16
 ·simp only [iH, hk, if_true, Bool.and_eq_true] at h
  have h := h.2
  by_cases h0 : T.num = 0
  ·rw [if_pos h0] at h
   obtain ⟨h1, h2⟩ := jt h
   have h1 : T.len = 1 := h1
   have h3 := xn (h2 0 (by decide))
   refine ⟨hk, .inl ⟨h0, h1⟩, ?_⟩
   rw [h1]; exact h3
  rw [if_neg h0] at h
  by_cases h1 : T.num = 1
  ·rw [if_pos h1] at h
   obtain ⟨h4, h2⟩ := jt h
   have h4 : T.len = 2 := h4
   refine ⟨hk, .inr (.inl ⟨h1, h4, sX (h2 0 (by decide))⟩), ?_⟩
   rw [h4]; exact xn (h2 1 (by decide))
  rw [if_neg h1] at h
  by_cases h2 : T.num = 2
  ·rw [if_pos h2] at h
   obtain ⟨h4, h5⟩ := jt h
   have h4 : T.len = 3 := h4
   refine ⟨hk, .inr (.inr ⟨h2, h4, sX (h5 0 (by decide)), sX (h5 1 (by decide))⟩), ?_⟩
   rw [h4]; exact xn (h5 2 (by decide))
  ·rw [if_neg h2] at h; cases h
 ·simp only [iH, hk, if_false] at h; cases h
theorem bt {α β : Type} {r : CR α} {f : α → CR β} {b : β} (h : CR.bind r f = .ok b) : ∃ a, r = .ok a ∧ f a = .ok b := by
 cases r with
 |error e => cases h
 |ok a => exact ⟨a, rfl, h⟩
theorem gV {m : qI} {s : CS} {r : Int × CS} (h : cN m s = .ok r) : m s = .ok r ∧ r.1 ≠ 0 := by
 obtain ⟨a, h1, h2⟩ := bt h
 split at h2
 ·cases h2
 ·injection h2 with h2; subst h2; exact ⟨h1, by assumption⟩
theorem zT {m : qI} {t : Int} {s s' : CS} (h : aE m t s = .ok s') : m s = .ok (t, s') ∧ t ≠ 0 := by
 obtain ⟨a, h1, h2⟩ := bt h
 obtain ⟨h3, h4⟩ := gV h1
 split at h2
 ·injection h2 with h2; subst h2; rename_i e; subst e; exact ⟨h3, h4⟩
 ·cases h2
def ExL (m : qI) (n : Nat) : Prop := ∀ s t s', m s = .ok (t, s') → s'.1 = s.1 ∧ s'.2.length = s.2.length + n
def WtL (m : CS → CR CS) (n : Nat) : Prop := ∀ s s', m s = .ok s' → s'.1 = s.1 ∧ s'.2.length = s.2.length + n
theorem ExL.value {m : qI} {n : Nat} (h : ExL m n) : ExL (cN m) n := fun s t s' e => h s t s' (gV e).1
theorem ExL.want {m : qI} {n : Nat} (h : ExL m n) (t : Int) : WtL (aE m t) n := fun s s' e => h s t s' (zT e).1
theorem aP (s : CS) : (ae s).2.length = s.2.length + 1 := by simp [ae]
theorem nu {f : Nat → CS → CR CS} {g : Nat → Nat} {n : Nat} (h : ∀ i, i < n → WtL (f i) (g i)) {k : Nat} (hk : k ≤ n) : WtL (forN f k) (ar g k) := by
  intro s s' e
  have := vo (f := f) (m := fun s : CS => s.2.length) (g := g) (P := fun s' : CS => s'.1 = s.1) (n := n) (fun i a b hi hp e => by
    obtain ⟨h1, h2⟩ := h i hi a b e
    exact ⟨h2, h1.trans hp⟩) hk rfl e
  exact ⟨this.2, this.1⟩
theorem ej (F : Nd) : ∀ T : Nd, T.eOk = true → ExL (bP F T) T.size := by
 have step : ∀ T : Nd, (∀ i, i < T.len → (T.kids i).eOk = true → ExL (bP F (T.kids i)) (T.kids i).size) → T.eOk = true → ExL (bP F T) T.size := by
  intro T ih aS s t s' e
  rw [qk F aS] at e
  obtain ⟨r, h1, h2⟩ := bt e
  injection h2 with h2
  have hs : s'.1 = r.2.1 ∧ s'.2.length = r.2.2.length := by
   injection h2 with h3 h4
   subst h4
   exact ⟨rfl, by simp⟩
  have hz := T.size_eq
  have key : r.2.1 = s.1 ∧ r.2.2.length = s.2.length + T.size := by
   have ht := aP s
   have P5 : (ae s).1 = s.1 := rfl
   have aV : ∀ i, i < T.len → (T.kids i).eOk = true → ∀ (x : Int) (a b : CS), aE (bP F (T.kids i)) x a = .ok b → b.1 = a.1 ∧ b.2.length = a.2.length + (T.kids i).size := fun i hi he x a b e => (ih i hi he).want x a b e
   unfold bI at h1
   by_cases I0 : T.kind = 22
   ·rw [if_pos I0] at h1; injection h1 with h1; subst h1
    have hl := tD (.inl I0) aS
    exact bG3
   rw [if_neg I0] at h1
   by_cases By : T.kind = 23
   ·rw [if_pos By] at h1; injection h1 with h1; subst h1
    have hl := tD (.inr (.inl By)) aS
    exact bG3
   rw [if_neg By] at h1
   by_cases IZ : T.kind = 24
   ·rw [if_pos IZ] at h1
    split at h1
    ·cases h1
    injection h1 with h1; subst h1
    have hl := tD (.inr (.inr IZ)) aS
    exact bG3
   rw [if_neg IZ] at h1
   by_cases Gi : T.kind = 25
   ·rw [if_pos Gi] at h1
    have he := Fh Gi aS
    split at h1
    ·cases h1
    split at h1
    ·exact bG0
    ·cases h1
   rw [if_neg Gi] at h1
   by_cases EZ : T.kind = 26
   ·rw [if_pos EZ] at h1
    obtain ⟨_, he⟩ := zD EZ aS
    exact bG0
   rw [if_neg EZ] at h1
   by_cases IY : T.kind = 27
   ·rw [if_pos IY] at h1
    obtain ⟨hl, he⟩ := zC IY aS
    exact bG1
   rw [if_neg IY] at h1
   by_cases Cm : T.kind = 29
   ·rw [if_pos Cm] at h1
    obtain ⟨hl, he⟩ := Fg Cm aS
    exact bG1
   rw [if_neg Cm] at h1
   have Ll : T.kind = 28 := by have := tE aS; omega
   obtain ⟨_, hl, dh, j5⟩ := vx Ll aS
   rw [hl] at hz; simp only [ar] at hz
   split at h1
   ·obtain ⟨r0, h3, h4⟩ := bt h1
    obtain ⟨s2, h5, h6⟩ := bt h4
    injection h6 with h6; subst h6
    obtain ⟨a1, a2⟩ := (ih 0 (by omega) dh).value _ _ _ h3
    have := aV 1 (by omega) j5 _ _ _ h5
    exact ⟨this.1.trans a1, by rw [this.2, a2]; omega⟩
   ·obtain ⟨r0, h3, h4⟩ := bt h1
    obtain ⟨s2, h5, h6⟩ := bt h4
    injection h6 with h6; subst h6
    obtain ⟨a1, a2⟩ := aV 0 (by omega) dh _ _ _ h3
    have := aV 1 (by omega) j5 _ _ _ h5
    exact ⟨this.1.trans a1, by rw [this.2, a2]; omega⟩
  exact ⟨hs.1.trans key.1, hs.2.trans key.2⟩
 intro T
 induction T with
 |nil => intro h; simp [Nd.eOk, xg] at h
 |mk k n s len kids ih => exact step _ (fun i _ => ih i)
def aN (E : Sc) : Nat := E.flatten.length
theorem lS {E : Sc} (h : E ≠ []) (s : ByteArray) (t : Int) : (fZ E s t).tail = E.tail ∧ (fZ E s t).length = E.length ∧ aN (fZ E s t) = aN E + 1 := by
 cases E with
 |nil => exact absurd rfl h
 |cons l E => exact ⟨rfl, rfl, by simp [fZ, aN]⟩
def StL (m : CS → CR CS) (n : Nat) : Prop := ∀ s s', s.1 ≠ [] → m s = .ok s' → s'.1.tail = s.1.tail ∧ s'.1.length = s.1.length ∧ s'.2.length = s.2.length + n ∧ aN s'.1 ≤ aN s.1 + n
theorem WtL.st {m : CS → CR CS} {n : Nat} (h : WtL m n) : StL m n := fun s s' _ e => by
 obtain ⟨h1, h2⟩ := h s s' e
 rw [h1]; exact ⟨rfl, rfl, h2, by omega⟩
theorem StL.comp {m m' : CS → CR CS} {n k j : Nat} (h : StL m n) (h' : StL m' k) (e : n + k = j) : StL (fun s => CR.bind (m s) m') j := by
 intro s s' hs e'
 obtain ⟨s1, h1, h2⟩ := bt e'
 obtain ⟨a1, a2, a3, a4⟩ := h s s1 hs h1
 have aD : s1.1 ≠ [] := by intro e0; rw [e0] at a2; exact hs (List.length_eq_zero_iff.1 a2.symm)
 obtain ⟨b1, b2, b3, b4⟩ := h' s1 s' aD h2
 exact ⟨b1.trans a1, b2.trans a2, by omega, by omega⟩
theorem StL.take {m : CS → CR CS} {n : Nat} (h : StL m n) : StL (fun s => m (ae s)) (1 + n) := by
 intro s s' hs e
 obtain ⟨b1, b2, b3, b4⟩ := h (ae s) s' hs e
 have := aP s
 have e1 : (ae s).1 = s.1 := rfl
 rw [e1] at b1 b2 b4
 exact ⟨b1, b2, by omega, by omega⟩
theorem StL.forN {f : Nat → CS → CR CS} {g : Nat → Nat} {n : Nat} (h : ∀ i, i < n → StL (f i) (g i)) : ∀ {k : Nat}, k ≤ n → StL (forN f k) (ar g k)
 |0, _, s, s', _, e => by injection e with e; subst e; exact ⟨rfl, rfl, rfl, Nat.le_add_right _ _⟩
 |k + 1, hk, s, s', hs, e => (StL.forN h (Nat.le_of_succ_le hk)).comp (h k hk) rfl s s' hs e
theorem StL.within {m : CS → CR CS} {n : Nat} (h : StL m n) (l : List (ByteArray × Int)) (hl : l.length ≤ 1) : WtL (within l m) n := by
 intro s s' e
 obtain ⟨s1, h1, h2⟩ := bt e
 injection h2 with h2; subst h2
 obtain ⟨b1, b2, b3, b4⟩ := h (l :: s.1, s.2) s1 (by simp) h1
 exact ⟨b1, b3⟩
theorem jN {g : Nat → Nat} : ar g 1 = g 0 := by simp [ar]
theorem xh (F : Nd) {T : Nd} (h : T.kind ≠ 0) : b7 F T = ⟨stM F T.kind T.name T.len (fun i => (T.kids i).num) (fun i => bP F (T.kids i)) (fun i => b7 F (T.kids i)), oA T.len (fun i => (b7 F (T.kids i)).st), Gj T.num T.name T.len (fun i => bP F (T.kids i)) (fun i => b7 F (T.kids i))⟩ := by
 cases T with
 |nil => exact absurd rfl h
 |mk => rfl
theorem bT (F : Nd) {T : Nd} (h : T.kind ≠ 0) : (b7 F T).st = stM F T.kind T.name T.len (fun i => (T.kids i).num) (fun i => bP F (T.kids i)) (fun i => b7 F (T.kids i)) := by rw [xh F h]
theorem jr (F : Nd) {T : Nd} (h : T.kind ≠ 0) : (b7 F T).sts = oA T.len (fun i => (b7 F (T.kids i)).st) := by rw [xh F h]
theorem qn (F : Nd) {T : Nd} (h : T.kind ≠ 0) : (b7 F T).cs = Gj T.num T.name T.len (fun i => bP F (T.kids i)) (fun i => b7 F (T.kids i)) := by rw [xh F h]
structure MnL (F T : Nd) : Prop where
 st : T.sOk = true → ∀ cx, StL ((b7 F T).st cx) T.size
 sts : T.sOk = true → T.kind = 4 → ∀ cx, StL ((b7 F T).sts cx) T.size
 cs : T.cOk = true → ∀ b cx, StL ((b7 F T).cs b cx) T.size
theorem StL.err {e : CS → Int × Nat} {n : Nat} : StL (fun s => .error (e s)) n := fun s s' _ h => by cases h
theorem StL.ite {c : CS → Prop} [∀ s, Decidable (c s)] {a b : CS → CR CS} {n : Nat} (ha : StL a n) (hb : StL b n) : StL (fun s => if c s then a s else b s) n := by
 intro s s' hs e
 dsimp only at e
 split at e
 ·exact ha s s' hs e
 ·exact hb s s' hs e
theorem StL.ok0 : StL (fun s => .ok (ae s)) 1 := by
 intro s s' hs e
 injection e with e; subst e
 exact ⟨rfl, rfl, aP s, Nat.le_add_right _ _⟩
theorem L5 (F T : Nd) (ih : ∀ i, i < T.len → MnL F (T.kids i)) : MnL F T := by
 have hz := T.size_eq
 have hE : ∀ i, i < T.len → (T.kids i).eOk = true → ExL (bP F (T.kids i)) (T.kids i).size := fun i hi h => ej F _ h
 have Sw : T.sOk = true → T.kind = 4 → ∀ cx, StL ((b7 F T).sts cx) T.size := by
  intro aS h4 cx
  rw [jr F (by omega), hz]
  exact (StL.forN (fun i hi => (ih i hi).st (AK h4 aS i hi) cx) lr).take
 refine ⟨?_, Sw, ?_⟩
 ·intro aS cx
  have K6 := sN aS
  rw [bT F (by omega)]
  have gh : T.kind = 4 → StL ((b7 F T).sts cx) T.size := fun h => Sw aS h cx
  intro s s' hs e
  unfold stM at e
  by_cases h4 : T.kind = 4
  ·rw [if_pos h4] at e
   have := gh h4
   rw [jr F (by omega)] at this
   exact (this.within [] (by simp)).st s s' hs e
  rw [if_neg h4] at e
  by_cases h5 : T.kind = 5
  ·rw [if_pos h5] at e
   obtain ⟨hl, he⟩ := mF (.inl h5) aS
   rw [hl, jN] at hz
   obtain ⟨r, h1, h2⟩ := bt e
   obtain ⟨a1, a2⟩ := (hE 0 (by omega) he).value _ _ _ h1
   have ht := aP s
   have P5 : (ae s).1 = s.1 := rfl
   split at h2
   ·cases h2
   ·injection h2 with h2; subst h2
    rw [P5] at a1
    obtain ⟨p1, p2, p3⟩ := lS (E := r.2.1) (by rw [a1]; exact hs) T.name r.1
    refine ⟨by rw [p1, a1], by rw [p2, a1], by show r.2.2.length = _; omega, ?_⟩
    show aN (fZ r.2.1 T.name r.1) ≤ _
    rw [p3, a1]; omega
  rw [if_neg h5] at e
  by_cases h6 : T.kind = 6
  ·rw [if_pos h6] at e
   obtain ⟨hl, he⟩ := mF (.inr (.inl h6)) aS
   rw [hl, jN] at hz
   split at e
   ·cases e
   ·exact bG4
  rw [if_neg h6] at e
  by_cases h7 : T.kind = 7
  ·rw [if_pos h7] at e
   have hl := sM (.inl h7) aS
   rw [hl] at hz; simp only [ar] at hz
   split at e
   ·cases e
   split at e
   ·rw [hz]; exact StL.ok0 s s' hs e
   ·cases e
  rw [if_neg h7] at e
  by_cases h8 : T.kind = 8
  ·rw [if_pos h8] at e
   obtain ⟨hl, dh, j5⟩ := Ma h8 aS
   rw [hl] at hz; simp only [ar] at hz
   rw [hz]
   exact (((hE 0 (by omega) dh).want _).st.comp ((hE 1 (by omega) j5).want _).st (by omega : _ = 0 + (T.kids 0).size + (T.kids 1).size)).take s s' hs e
  rw [if_neg h8] at e
  by_cases h9 : T.kind = 9 ∨ T.kind = 13 ∨ T.kind = 14
  ·rw [if_pos h9] at e
   obtain ⟨hl, he⟩ := mF (by omega) aS
   rw [hl, jN] at hz
   obtain ⟨r, h1, h2⟩ := bt e
   injection h2 with h2; subst h2
   obtain ⟨a1, a2⟩ := hE 0 (by omega) he _ _ _ h1
   exact bG2
  rw [if_neg h9] at e
  by_cases si : T.kind = 10
  ·rw [if_pos si] at e
   obtain ⟨hl, dh, hb1, ba⟩ := pD si aS
   have hk : ∀ i, i < T.len - 1 → StL ((b7 F (T.kids (i + 1))).st cx) (T.kids (i + 1)).size := by
    intro i hi
    have : i = 0 ∨ i = 1 := by omega
    rcases this with rfl | rfl
    ·exact (ih 1 (by omega)).st hb1.2 cx
    ·exact (ih 2 (by omega)).st (ba (by omega)).2 cx
   have ji : 1 + ((T.kids 0).size + ar (fun i => (T.kids (i + 1)).size) (T.len - 1)) = T.size := by
    rw [hz]
    rcases hl with hl | hl <;> rw [hl] <;> simp [ar] <;> omega
   rw [← ji]
   exact (((hE 0 (by omega) dh).want _).st.comp (StL.forN hk lr) rfl).take s s' hs e
  rw [if_neg si] at e
  by_cases mW : T.kind = 11
  ·rw [if_pos mW] at e
   rcases Dl mW aS with ⟨hl, Ch, hb⟩ | ⟨hl, he, hb⟩
   ·rw [hl] at hz e; simp only [ar] at hz
    rw [if_neg (by omega)] at e
    have := (ih 0 (by omega)).st hb { cx with loops := cx.loops + 1, outs := cx.outs + 1 }
    rw [hz, Nat.zero_add]
    exact this.take s s' hs e
   ·rw [hl] at hz e; simp only [ar] at hz
    rw [if_pos rfl] at e
    have := (ih 1 (by omega)).st hb.2 { cx with loops := cx.loops + 1, outs := cx.outs + 1 }
    rw [hz]
    exact (((hE 0 (by omega) he).want _).st.comp this (by omega : _ = 0 + (T.kids 0).size + (T.kids 1).size)).take s s' hs e
  rw [if_neg mW] at e
  by_cases sh : T.kind = 12
  ·rw [if_pos sh] at e
   split at e
   ·rcases Dk sh aS with hl | ⟨hl, he⟩
    ·rw [hl] at hz e; simp only [ar] at hz
     rw [if_neg (by omega)] at e
     rw [hz]; exact StL.ok0 s s' hs e
    ·rw [hl, jN] at hz
     rw [if_pos (by omega)] at e
     exact bG4
   ·cases e
  rw [if_neg sh] at e
  by_cases sf : T.kind = 15
  ·rw [if_pos sf] at e
   rw [hz]
   exact (StL.forN (g := fun i => (T.kids i).size) (fun i hi => (ih i hi).cs (Dj sf aS i hi) _ _) lr).take s s' hs e
  rw [if_neg sf] at e
  by_cases qO : T.kind = 17
  ·rw [if_pos qO] at e
   have hl := sM (.inr (.inl qO)) aS
   rw [hl] at hz; simp only [ar] at hz
   split at e
   ·cases e
   ·rw [hz]; exact StL.ok0 s s' hs e
  rw [if_neg qO] at e
  by_cases Lp : T.kind = 18
  ·rw [if_pos Lp] at e
   have hl := sM (.inr (.inr Lp)) aS
   rw [hl] at hz; simp only [ar] at hz
   split at e
   ·cases e
   ·rw [hz]; exact StL.ok0 s s' hs e
  rw [if_neg Lp] at e
  have hone : T.kind = 19 ∨ T.kind = 20 ∨ T.kind = 21 := by omega
  obtain ⟨hl, he⟩ := mF (by omega) aS
  rw [hl, jN] at hz
  by_cases Lo : T.kind = 19
  ·rw [if_pos Lo] at e
   exact bG4
  rw [if_neg Lo] at e
  by_cases Lm : T.kind = 20
  ·rw [if_pos Lm] at e
   obtain ⟨r, h1, h2⟩ := bt e
   split at h2
   ·cases h2
   injection h2 with h2; subst h2
   obtain ⟨a1, a2⟩ := (hE 0 (by omega) he).value _ _ _ h1
   exact bG2
  rw [if_neg Lm, if_pos (by omega)] at e
  exact bG4
 ·intro aS b cx
  obtain ⟨hk, hn, kL, xM⟩ := zH aS
  rw [qn F (by omega)]
  intro s s' hs e
  unfold Gj at e
  split at e
  ·cases e
  have oH : WtL (within (if ao T.name then [] else [(T.name, 1)]) ((b7 F (T.kids (T.len - 1))).sts cx)) (T.kids (T.len - 1)).size := by
   refine ((ih (T.len - 1) (by rcases hn with h | h | h <;> omega)).sts xM kL cx).within _ ?_
   split <;> simp
  rcases hn with ⟨h0, hl⟩ | ⟨h1, hl, he⟩ | ⟨h2, hl, dh, j5⟩
  ·rw [hl] at hz oH e; simp only [ar] at hz
   rw [if_neg (by omega)] at e
   simp only [CR.bind_ok] at e
   rw [if_neg (by omega)] at e
   rw [hz, Nat.zero_add]
   exact oH.st.take s s' hs e
  ·rw [hl] at hz oH e; simp only [ar] at hz
   rw [if_pos (by omega)] at e
   obtain ⟨s1, h3, h4⟩ := bt e
   rw [if_neg (by omega)] at h4
   rw [hz]
   refine (((hE 0 (by omega) he).want 3).st.comp oH.st (by simp : _ = 0 + (T.kids 0).size + (T.kids 1).size)).take s s' hs ?_
   dsimp only
   rw [h3]; exact h4
  ·rw [hl] at hz oH e; simp only [ar] at hz
   rw [if_pos (by omega)] at e
   obtain ⟨s1, h3, h4⟩ := bt e
   rw [if_pos h2] at h4
   rw [hz]
   refine (((hE 0 (by omega) dh).want 3).st.comp (((hE 1 (by omega) j5).want 1).st.comp oH.st rfl) (by simp; omega : _ = 0 + (T.kids 0).size + (T.kids 1).size + (T.kids 2).size)).take s s' hs ?_
   dsimp only
   rw [h3]; exact h4
theorem iz (F : Nd) : ∀ T : Nd, MnL F T := by
 intro T
 induction T with
 |nil => exact ⟨fun h => by simp [Nd.sOk, xg] at h, fun h => by simp [Nd.sOk, xg] at h, fun h => by simp [Nd.cOk, xg] at h⟩
 |mk k n s len kids ih => exact L5 F _ fun i _ => ih i
structure Kept (S : Nat → Prop) (w w' : World) : Prop where
 os : w'.os = w.os
 tape : w'.tape = w.tape
 output : w'.output = w.output
 size : w.heap.size ≤ w'.heap.size
 block : ∀ k, k < w.heap.size → ¬ S k → w'.heap[k]? = w.heap[k]?
theorem Kept.refl (S : Nat → Prop) (w : World) : Kept S w w := ⟨rfl, rfl, rfl, Nat.le_refl _, fun _ _ _ => rfl⟩
theorem Kept.trans {S S' : Nat → Prop} {a b c : World} (h : Kept S a b) (k : Kept S' b c) (hs : ∀ i, i < a.heap.size → S' i → S i) : Kept S a c :=
 ⟨k.os.trans h.os, k.tape.trans h.tape, k.output.trans h.output, Nat.le_trans h.size k.size, fun i hi hn => (k.block i (Nat.lt_of_lt_of_le hi h.size) (fun h' => hn (hs i hi h'))).trans (h.block i hi hn)⟩
theorem bG {w w' : World} (h : Below w.heap.size w w') (S : Nat → Prop) : Kept S w w' := ⟨h.os, h.tape, h.output, h.size, fun k hk _ => h.block k hk⟩
theorem Kept.below {S : Nat → Prop} {w w' : World} (h : Kept S w w') {B : Nat} (hB : B ≤ w.heap.size) (hS : ∀ k, S k → B ≤ k) : Below B w w' :=
 ⟨h.os, h.tape, h.output, h.size, fun k hk => h.block k (by omega) (fun hs => by have := hS k hs; omega)⟩
theorem Kept.setCell {S : Nat → Prop} {w : World} (a : Addr) (v : Value) (hs : S a.block) : Kept S w (w.setCell a v) :=
 ⟨by simp [World.setCell], by simp [World.setCell], by simp [World.setCell], by simp [World.setCell], fun k _ hn => Below.heap_setCell w a v k (fun e => hn (e ▸ hs))⟩
theorem Kept.grown {S : Nat → Prop} {w w' : World} {own : Option Nat} (h : w.grownBy w' own) (hs : ∀ k, own = some k → S k) : Kept S w w' :=
 ⟨h.os, h.tape, h.output, h.size, fun k hk hn => h.block k hk (fun e => hn (hs k e.symm))⟩
structure SK where
 cb : Nat
 tb : Nat
 lo : Nat
 up : Nat
 N : Nat
 F : Nd
 fv : Value
structure SK.Ok (K : SK) : Prop where
 cl : K.lo ≤ K.cb
 tl : K.lo ≤ K.tb
 cu : K.cb < K.up
 tu : K.tb < K.up
 ne : K.cb ≠ K.tb
 few : K.N ≤ 1048576
 tight : K.up ≤ K.cb + 1 ∨ K.up ≤ K.tb + 1
abbrev Vr := ByteArray × Int × Nat
def fH : List Vr → List Value
 |[] => []
 |v :: l => .string v.1 :: .int .i64 v.2.1 :: .int .i64 v.2.2 :: fH l
theorem tB (a b : List Vr) : fH (a ++ b) = fH a ++ fH b := by
 induction a with
 |nil => rfl
 |cons v a ih => simp [fH, ih]
def varsOf : Sc → List Vr
 |[] => []
 |l :: E => varsOf E ++ l.reverse.map fun p => (p.1, p.2, E.length + 1)
theorem py (E : Sc) : (varsOf E).length = aN E := by
 induction E with
 |nil => rfl
 |cons l E ih => simp [varsOf, aN, ih]; unfold aN at ih; simp at ih ⊢; omega
def SK.cells (K : SK) (vv : Value) (code place deep ret loops outs : Int) : Array Value :=
 #[.int .i64 K.F.kind, .int .i64 K.F.num, .string K.F.name, K.fv, .slice (some ⟨K.tb, 0, none⟩) K.N K.N, .int .i64 code, .int .i64 place, vv, .int .i64 deep, .int .i64 ret, .int .i64 loops, .int .i64 outs]
structure SRaw (K : SK) (w : World) (vv : Value) (code place deep ret loops outs : Int) (zs : List Int) (vs : List Vr) : Prop where
 blk : w.heap[K.cb]? = some (.cells (K.cells vv code place deep ret loops outs) 51 (0, 0))
 typ : w.heap[K.tb]? = some (.cells (zs.map (Value.int .i64)).toArray 3 (0, 0))
 len : zs.length = K.N
 var : w.ownsRow K.up 92 3 vv vs.length (fH vs)
def SIs (K : SK) : CR CS → Int → Int → Int → List Int → List Vr → Prop
 |.ok s, code, place, deep, zs, vs => code = 0 ∧ place = 0 ∧ deep = s.1.length ∧ zs = s.2 ++ List.replicate (K.N - s.2.length) 0 ∧ s.2.length ≤ K.N ∧ vs = varsOf s.1 ∧ aN s.1 ≤ s.2.length ∧ s.1.length ≤ s.2.length + 1
 |.error e, code, place, _, _, _ => code = e.1 ∧ e.1 ≠ 0 ∧ place = (e.2 : Int)
def SK.S (K : SK) (own : Option Nat) : Nat → Prop := fun k => k = K.cb ∨ k = K.tb ∨ some k = own
structure SS (K : SK) (w0 : World) (az : Option Nat) (σ : CR CS) (ret loops outs : Int) (w : World) : Prop where
 ok : K.Ok
 is : ∃ vv code place deep zs vs, SRaw K w vv code place deep ret loops outs zs vs ∧ SIs K σ code place deep zs vs ∧ (vv.ownBlock = az ∨ ∃ k, vv.ownBlock = some k ∧ w0.heap.size ≤ k)
 kept : Kept (K.S az) w0 w
theorem SRaw.lt {K : SK} {w : World} {vv : Value} {code place deep ret loops outs : Int} {zs : List Int} {vs : List Vr} (h : SRaw K w vv code place deep ret loops outs zs vs) : K.cb < w.heap.size ∧ K.tb < w.heap.size :=
 ⟨(Array.getElem?_eq_some_iff.1 h.blk).1, (Array.getElem?_eq_some_iff.1 h.typ).1⟩
theorem SRaw.room {K : SK} (hK : K.Ok) {w : World} {vv : Value} {code place deep ret loops outs : Int} {zs : List Int} {vs : List Vr} (h : SRaw K w vv code place deep ret loops outs zs vs) : K.up ≤ w.heap.size := by
 have := h.lt; have := hK.tight; omega
theorem SS.lt {K : SK} {w0 : World} {az : Option Nat} {σ : CR CS} {ret loops outs : Int} {w : World} (h : SS K w0 az σ ret loops outs w) : K.cb < w.heap.size ∧ K.tb < w.heap.size := by
 obtain ⟨vv, code, place, deep, zs, vs, h1, _⟩ := h.is; exact h1.lt
theorem SRaw.calm {K : SK} {w w' : World} {vv : Value} {code place deep ret loops outs : Int} {zs : List Int} {vs : List Vr} (h : SRaw K w vv code place deep ret loops outs zs vs) (hb : Below w.heap.size w w') : SRaw K w' vv code place deep ret loops outs zs vs :=
 ⟨(hb.block _ h.lt.1).trans h.blk, (hb.block _ h.lt.2).trans h.typ, h.len, dM h.var fun k hk => hb.block k (h.var.lt k hk).2⟩
theorem SS.calm {K : SK} {w0 : World} {az : Option Nat} {σ : CR CS} {ret loops outs : Int} {w w' : World} (h : SS K w0 az σ ret loops outs w) (hb : Below w.heap.size w w') : SS K w0 az σ ret loops outs w' := by
 obtain ⟨vv, code, place, deep, zs, vs, h1, h2, h3⟩ := h.is
 exact ⟨h.ok, ⟨vv, code, place, deep, zs, vs, h1.calm hb, h2, h3⟩, h.kept.trans (bG hb (K.S az)) (fun _ _ h => h)⟩
theorem SS.alloc {K : SK} {w0 : World} {az : Option Nat} {σ : CR CS} {ret loops outs : Int} {w : World} (h : SS K w0 az σ ret loops outs w) (o : Obj) : SS K w0 az σ ret loops outs (w.alloc o) :=
 h.calm (bA)
theorem SS.drew {K : SK} {w0 : World} {az : Option Nat} {σ : CR CS} {ret loops outs : Int} {w : World} (h : SS K w0 az σ ret loops outs w) : SS K w0 az σ ret loops outs w.drew :=
 h.calm ⟨rfl, rfl, rfl, Nat.le_refl _, fun _ _ => rfl⟩
theorem SS.restart {K : SK} {w0 : World} {az : Option Nat} {σ : CR CS} {ret loops outs : Int} {w : World} (h : SS K w0 az σ ret loops outs w) :
  ∃ own, SS K w own σ ret loops outs w ∧ (∀ k, own = some k → K.up ≤ k ∧ k < w.heap.size) ∧ (own = az ∨ ∃ k, own = some k ∧ w0.heap.size ≤ k) ∧
   ∀ σ' r' l' o' w', SS K w own σ' r' l' o' w' → SS K w0 az σ' r' l' o' w' := by
 obtain ⟨vv, code, place, deep, zs, vs, h1, h2, h3⟩ := h.is
 have hk := h.kept
 have M6 := hk.size
 refine ⟨vv.ownBlock, ⟨h.ok, ⟨vv, code, place, deep, zs, vs, h1, h2, .inl rfl⟩, Kept.refl _ _⟩, h1.var.lt, h3, ?_⟩
 intro σ' r' l' o' w' h'
 obtain ⟨LK, code', place', deep', zs', vs', k1, k2, k3⟩ := h'.is
 refine ⟨h.ok, ⟨LK, code', place', deep', zs', vs', k1, k2, ?_⟩, hk.trans h'.kept ?_⟩
 ·rcases k3 with e | ⟨k, e, hk⟩
  ·rw [e]; exact h3
  ·exact .inr ⟨k, e, by omega⟩
 ·rintro i hi (e | e | e)
  ·exact .inl e
  ·exact .inr (.inl e)
  ·rcases h3 with e3 | ⟨k, e3, hk⟩
   ·exact .inr (.inr (e.trans e3))
   ·rw [e3] at e; injection e with e; omega
theorem SS.keep {K : SK} {w0 : World} {az : Option Nat} {σ : CR CS} {ret loops outs : Int} {w : World} (h : SS K w0 az σ ret loops outs w) {k : Nat} (hk : k < w0.heap.size) (h1 : k ≠ K.cb) (h2 : k ≠ K.tb) (h3 : some k ≠ az) : w.heap[k]? = w0.heap[k]? :=
 h.kept.block k hk (by rintro (e | e | e) <;> contradiction)
theorem SS.below {K : SK} {w0 : World} {az : Option Nat} {σ : CR CS} {ret loops outs : Int} {w : World} (h : SS K w0 az σ ret loops outs w) (h0 : K.lo ≤ w0.heap.size) (ho : ∀ k, az = some k → K.lo ≤ k) : Below K.lo w0 w :=
 h.kept.below h0 (by rintro k (e | e | e); have := h.ok.cl; omega; have := h.ok.tl; omega; exact ho k e.symm)
theorem SRaw.cells {K : SK} {w : World} {vv : Value} {code place deep ret loops outs : Int} {zs : List Int} {vs : List Vr} (h : SRaw K w vv code place deep ret loops outs zs vs) :
  w.cell? ⟨K.cb, 0, none⟩ = some (.int .i64 K.F.kind) ∧ w.cell? ⟨K.cb, 1, none⟩ = some (.int .i64 K.F.num) ∧ w.cell? ⟨K.cb, 2, none⟩ = some (.string K.F.name) ∧ w.cell? ⟨K.cb, 3, none⟩ = some K.fv ∧
  w.cell? ⟨K.cb, 4, none⟩ = some (.slice (some ⟨K.tb, 0, none⟩) K.N K.N) ∧ w.cell? ⟨K.cb, 5, none⟩ = some (.int .i64 code) ∧ w.cell? ⟨K.cb, 6, none⟩ = some (.int .i64 place) ∧ w.cell? ⟨K.cb, 7, none⟩ = some vv ∧
  w.cell? ⟨K.cb, 8, none⟩ = some (.int .i64 deep) ∧ w.cell? ⟨K.cb, 9, none⟩ = some (.int .i64 ret) ∧ w.cell? ⟨K.cb, 10, none⟩ = some (.int .i64 loops) ∧ w.cell? ⟨K.cb, 11, none⟩ = some (.int .i64 outs) := by
 have := h.blk
 refine ⟨?_, ?_, ?_, ?_, ?_, ?_, ?_, ?_, ?_, ?_, ?_, ?_⟩ <;> simp [World.cell?, this, SK.cells]
theorem SRaw.free {K : SK} {w : World} {vv : Value} {code place deep ret loops outs : Int} {zs : List Int} {vs : List Vr} (h : SRaw K w vv code place deep ret loops outs zs vs) (i : Nat) : w.frozen? ⟨K.cb, i, none⟩ = false := frozen_of_row w K.cb i _ _ h.blk
theorem SRaw.slice {K : SK} {w : World} {vv : Value} {code place deep ret loops outs : Int} {zs : List Int} {vs : List Vr} (h : SRaw K w vv code place deep ret loops outs zs vs) : ∃ a c, vv = .slice a vs.length c ∧ (vs.length : Int) ≤ c := by
 rcases h.var.2 with ⟨rfl, e⟩ | ⟨g, cap, cur, rfl, _, _, h4, _⟩
 ·exact ⟨none, 0, by rw [e], by rw [e]; simp⟩
 ·exact ⟨_, _, rfl, by omega⟩
theorem SRaw.set {K : SK} (hK : K.Ok) {w : World} {vv : Value} {code place deep ret loops outs code' place' deep' ret' loops' outs' : Int} {zs : List Int} {vs : List Vr} (h : SRaw K w vv code place deep ret loops outs zs vs) {i : Nat} {u : Value}
  (e : (K.cells vv code place deep ret loops outs).set! i u = K.cells vv code' place' deep' ret' loops' outs') : SRaw K (w.setCell ⟨K.cb, i, none⟩ u) vv code' place' deep' ret' loops' outs' zs vs := by
 refine ⟨?_, ?_, h.len, ownsRow_setCell_below h.var (show K.cb < K.up from hK.cu) u⟩
 ·rw [heap_setCell_same w K.cb i _ _ u h.blk, ← e]
  simp
 ·rw [Below.heap_setCell w ⟨K.cb, i, none⟩ u K.tb (fun e => hK.ne e.symm)]; exact h.typ
def Uk (σ : CR CS) (c : Int) (p : Nat) : CR CS := match σ with | .ok _ => .error (c, p) | .error e => .error e
theorem dO {K : SK} {w0 : World} {az : Option Nat} {σ : CR CS} {ret loops outs : Int} {w : World} (h : SS K w0 az σ ret loops outs w) (c : Int) (hc : c ≠ 0) (p : Nat) :
  Calls Tryz.prog 46 #[.pointer (some ⟨K.cb, 0, none⟩), .int .i64 c, .int .i64 p] w fun e w' => e = .returned (.tuple #[]) ∧ SS K w0 az (Uk σ c p) ret loops outs w' := by
 obtain ⟨vv, code, place, deep, zs, vs, h1, h2, h3⟩ := h.is
 obtain ⟨k0, k1, k2, k3, k4, k5, k6, k7, k8, k9, qK, pR⟩ := h1.cells
 have f5 := h1.free 5
 have f6 := h1.free 6
 have HS := aa h
 have HR := aa h1
 have HI := aa h2
 have HO := aa h3
 clear h h1 h2 h3 k0 k1 k2 k3 k4 k7 k8 k9 qK pR
 cases σ with
 |ok s =>
  have hz : code = 0 := HI.out.1
  subst hz
  go_enter Tryz.func46, Tryz.ntmps46
  go_wp2
  go_end0
  have r1 := HR.out.set HS.out.ok (i := 5) (u := .int .i64 c) (code' := c) (place' := place) (deep' := deep) (ret' := ret) (loops' := loops) (outs' := outs) rfl
  have r2 := r1.set HS.out.ok (i := 6) (u := .int .i64 p) (code' := c) (place' := p) (deep' := deep) (ret' := ret) (loops' := loops) (outs' := outs) rfl
  refine ⟨rfl, HS.out.ok, ⟨vv, c, p, deep, zs, vs, r2, ⟨rfl, hc, rfl⟩, HO.out⟩, ?_⟩
  exact (HS.out.kept.trans (Kept.setCell _ _ (.inl rfl)) (fun _ _ h => h)).trans (Kept.setCell _ _ (.inl rfl)) (fun _ _ h => h)
 |error e =>
  have hz : (code == 0) = false := bn (by rw [HI.out.1]; exact HI.out.2.1)
  go_enter Tryz.func46, Tryz.ntmps46
  go_wp2
  go_end0
  exact ⟨rfl, HS.out⟩
def jo (vs : List Vr) (i : Nat) : Vr := vs.getD i (⟨#[]⟩, 0, 0)
theorem vp : ∀ (vs : List Vr) (i : Nat), i < vs.length → (fH vs)[i * 3]? = some (.string (jo vs i).1) ∧ (fH vs)[i * 3 + 1]? = some (.int .i64 (jo vs i).2.1) ∧ (fH vs)[i * 3 + 2]? = some (.int .i64 (jo vs i).2.2)
 |[], i, h => absurd h (Nat.not_lt_zero _)
 |v :: l, 0, _ => ⟨rfl, rfl, rfl⟩
 |v :: l, i + 1, h => by
  have e0 : (i + 1) * 3 = i * 3 + 1 + 1 + 1 := by omega
  have e1 : (i + 1) * 3 + 1 = i * 3 + 1 + 1 + 1 + 1 := by omega
  have e2 : (i + 1) * 3 + 2 = i * 3 + 2 + 1 + 1 + 1 := by omega
  rw [e1, e2, e0]
  exact vp l i (by simpa using h)
theorem SRaw.vars {K : SK} {w : World} {vv : Value} {code place deep ret loops outs : Int} {zs : List Int} {vs : List Vr} (h : SRaw K w vv code place deep ret loops outs zs vs) :
  ∃ a cap, vv = .slice a vs.length cap ∧ vs.length ≤ cap ∧ cap ≤ 9223372036854775807 ∧ (vs.length = 0 ∨ ∃ g, a = some ⟨g, 0, none⟩ ∧ ∀ i, i < vs.length → w.cell? ⟨g, i * 3, none⟩ = some (.string (jo vs i).1) ∧ w.cell? ⟨g, i * 3 + 1, none⟩ = some (.int .i64 (jo vs i).2.1) ∧ w.cell? ⟨g, i * 3 + 2, none⟩ = some (.int .i64 (jo vs i).2.2)) := by
 have hv := h.var
 rcases h.var.2 with ⟨rfl, e⟩ | ⟨g, cap, cur, rfl, h2, h3, h4, h5, h6⟩
 ·exact ⟨none, 0, by rw [e], by rw [e]; exact Nat.le_refl _, by omega, .inl e⟩
 ·refine ⟨_, cap, rfl, h4, by unfold maxLen at h5; omega, .inr ⟨g, rfl, fun i hi => ?_⟩⟩
  have hc := hv.cells (g := g) rfl
  obtain ⟨a0, a1, a2⟩ := vp vs i hi
  refine ⟨?_, ?_, ?_⟩
  ·rw [← iD]; exact hc _ _ a0
  ·rw [← iD]; exact hc _ _ a1
  ·rw [← iD]; exact hc _ _ a2
theorem nP {a b : ByteArray} (h : ¬ a = b) : (a.toList == b.toList) = false := by rw [l6]; simpa using h
def gP (vs : List Vr) (s : ByteArray) : Nat → Int
 |0 => 0
 |n + 1 => if (jo vs n).1 = s then (jo vs n).2.1 else gP vs s n
theorem DU {K : SK} {w : World} {vv : Value} {code place deep ret loops outs : Int} {zs : List Int} {vs : List Vr} (h : SRaw K w vv code place deep ret loops outs zs vs) (s : ByteArray) (hn : vs.length ≤ 1048576) :
  Calls Tryz.prog 108 #[.pointer (some ⟨K.cb, 0, none⟩), .string s] w fun e w' => e = .returned (.int .i64 (gP vs s vs.length)) ∧ Below w.heap.size w w' := by
 obtain ⟨a, cap, rfl, eM, iG, hv⟩ := h.vars
 obtain ⟨k0, k1, k2, k3, k4, k5, k6, k7, k8, k9, qK, pR⟩ := h.cells
 clear h k0 k1 k2 k3 k4 k5 k6 k8 k9 qK pR
 have HV := aa hv
 clear hv
 go_enter Tryz.func108, Tryz.ntmps108
 go_wp2
 go_loopw [5] (fun i wr => wr = w ∧ ∃ n : Nat, n ≤ vs.length ∧ i = .int .i64 ((n : Int) - 1) ∧ gP vs s vs.length = gP vs s n) (fun i _ => (intOf i + 1).toNat)
 case atStart => exact ⟨rfl, vs.length, Nat.le_refl _, rfl, rfl⟩
 case round =>
  obtain ⟨rfl, n, hnl, rfl, hl⟩ := hrel
  have HL := aa hl
  clear hl
  cases n with
  |zero =>
   go_wp2
   go_ret
   exact ⟨by rw [HL.out]; rfl, Below.refl _ _⟩
  |succ n =>
   rcases HV.out with h0 | ⟨g, rfl, hv⟩
   ·omega
   obtain ⟨c0, c1, c2⟩ := hv n (by omega)
   have e1 : ((n + 1 : Nat) : Int) - 1 = n := by omega
   rw [e1]
   by_cases hs : (jo vs n).1 = s
   ·have ht : ((jo vs n).1.toList == s.toList) = true := by rw [hs]; exact beq_self_eq_true _
    have hL : gP vs s (n + 1) = (jo vs n).2.1 := by simp [gP, hs]
    rw [hL] at HL
    go_wp2
    go_ret
    exact ⟨by rw [HL.out]; rfl, Below.refl _ _⟩
   ·have ht : ((jo vs n).1.toList == s.toList) = false := nP hs
    have hL : gP vs s (n + 1) = gP vs s n := by simp [gP, hs]
    go_wp2
    refine ⟨⟨trivial, n, by omega, rfl, by rw [HL.out]; exact hL⟩, by simp only [intOf]; omega⟩
theorem pz (a b : List Vr) {i : Nat} (h : i < a.length) : jo (a ++ b) i = jo a i := by simp [jo, List.getElem?_append_left h]
theorem nM (a b : List Vr) {i : Nat} (h : a.length ≤ i) : jo (a ++ b) i = jo b (i - a.length) := by simp [jo, List.getElem?_append_right h]
theorem pP (a b : List Vr) (s : ByteArray) : ∀ {n : Nat}, n ≤ a.length → gP (a ++ b) s n = gP a s n
 |0, _ => rfl
 |n + 1, h => by simp only [gP]; rw [pz a b h, pP a b s (by omega)]
theorem xl (a : List Vr) (v : Vr) (s : ByteArray) : gP (a ++ [v]) s (a ++ [v]).length = if v.1 = s then v.2.1 else gP a s a.length := by
 have e : (a ++ [v]).length = a.length + 1 := by simp
 rw [e]
 simp only [gP]
 rw [nM a [v] lr, Nat.sub_self, pP a [v] s lr]
 rfl
theorem pO (a : List Vr) (d : Nat) (s : ByteArray) : ∀ l : List (ByteArray × Int), gP (a ++ l.reverse.map fun p => (p.1, p.2, d)) s (a ++ l.reverse.map fun p => (p.1, p.2, d)).length = (match l.find? (fun p => decide (p.1 = s)) with | some p => p.2 | none => gP a s a.length)
 |[] => by simp
 |p :: l => by
  have ih := pO a d s l
  rw [List.reverse_cons, List.map_append, ← List.append_assoc]
  rw [List.map_cons, List.map_nil, xl, ih]
  by_cases h : p.1 = s <;> simp [h]
theorem DV (E : Sc) (s : ByteArray) : gP (varsOf E) s (varsOf E).length = look E s := by
 induction E with
 |nil => rfl
 |cons l E ih =>
  rw [varsOf, pO, ih]
  unfold look me
  rw [List.flatten_cons, List.find?_append]
  cases List.find? (fun p => decide (p.1 = s)) l <;> rfl
theorem iW {K : SK} {w0 : World} {az : Option Nat} {s : CS} {ret loops outs : Int} {w : World} (h : SS K w0 az (.ok s) ret loops outs w) (t : ByteArray) :
  Calls Tryz.prog 108 #[.pointer (some ⟨K.cb, 0, none⟩), .string t] w fun e w' => e = .returned (.int .i64 (look s.1 t)) ∧ SS K w0 az (.ok s) ret loops outs w' := by
 obtain ⟨vv, code, place, deep, zs, vs, h1, ⟨_, _, _, _, h6, h7, h8, _⟩, _⟩ := h.is
 subst h7
 have := h.ok.few
 refine (DU h1 t (by rw [py]; omega)).mono ?_
 rintro e w' ⟨rfl, hb⟩
 exact ⟨by rw [DV], h.calm hb⟩
theorem jH {P : Program} (w : World) (base : Nat) (t ty e : TypeId) (i : TypeInfo) (z : Value) (size bytes : Nat) (ht : P.underlying t = some (.slice e)) (hi : P.info? e = some i) (hz : i.zero = some z)
  (y6 : i.size = size) (Qh : i.bytes = bytes) (RZ : z.cells.size = size) (b8 : 0 < size) (v : Value) (n : Nat) (xs : List Value) (cY : w.ownsRow base e size v n xs)
  (a : Addr) (m c : Nat) (news : List Value) (hl : news.length = m * size) (oE : ∀ j u, news[j]? = some u → w.cell? (a.add j) = some u) (h1 : ∀ u ∈ news, u.oneCell' = true) (Uh : n + m ≤ maxLen) (hb : (n + m) * bytes ≤ 140737488355328) (ER : base ≤ w.heap.size) :
  ∃ v' w', (Builtin.append_ #[t, t] ty #[v, .slice (some a) m c]).run P w = .ok v' w' ∧ w'.ownsRow base e size v' (n + m) (xs ++ news) ∧ w.grownBy w' v.ownBlock ∧ (v'.ownBlock = v.ownBlock ∨ ∃ k, v'.ownBlock = some k ∧ w.heap.size ≤ k) ∧
   ∃ a c, v' = .slice a (n + m) c := by
 obtain ⟨v', w', hr, h2, h3, h4⟩ := run_append_own (P := P) w base t ty e i z size bytes ht hi hz y6 Qh RZ b8 v n xs cY a m c news hl oE h1 Uh hb ER
 subst y6
 subst Qh
 have hsmall : n + m ≤ 9223372036854775807 := by simp only [maxLen] at Uh; omega
 have Gc : ∃ a c, v' = .slice a (n + m) c := by
  rcases h2.2 with ⟨rfl, e⟩ | ⟨g, cap, cur, rfl, _⟩
  ·exact ⟨none, 0, by rw [e]⟩
  ·exact ⟨_, _, rfl⟩
 refine ⟨v', w', hr, h2, h3, ?_, Gc⟩
 rcases cY.2 with ⟨rfl, rfl⟩ | ⟨g, cap, cur, rfl, hbg, hg, hnc, jw, wg, htake⟩
 ·by_cases hm : m = 0
  ·exact .inl (by rw [h4.2 ⟨rfl, hm⟩])
  ·have Iw := run_append_nil (P := P) w t ty e i z ht hi hz a m c news hl oE (by omega) (by omega) (by have hb := hb; simp only [Nat.zero_add] at hb; omega)
   rw [Iw] at hr
   injection hr with e1 e2
   subst e1
   exact .inr ⟨w.heap.size, rfl, Nat.le_refl _⟩
 ·by_cases KU : n + m ≤ cap
  ·have ay : n * i.size + news.length ≤ cur.size := by rw [hl, wg, ← Nat.add_mul]; exact Nat.mul_le_mul_right _ KU
   have Iw := run_append_room (P := P) w t ty e i ht hi g n cap cur hg a m c news hl oE h1 KU ay
   rw [Iw] at hr
   injection hr with e1 e2
   subst e1
   exact .inl rfl
  ·have holds : ∀ j u, xs[j]? = some u → w.cell? ((⟨g, 0, none⟩ : Addr).add j) = some u := cY.cells (g := g) rfl
   have Iw := run_append_grow (P := P) w t ty e i z ht hi hz ⟨g, 0, none⟩ n cap xs cY.1 holds a m c news hl oE (by omega) (by omega) (growslice_fits (by omega) hb)
   rw [Iw] at hr
   injection hr with e1 e2
   subst e1
   exact .inr ⟨w.heap.size, rfl, Nat.le_refl _⟩
theorem bp {P : Program} (w : World) {ops : Array Oper} {rest : List Oper} {o : Oper} {a : Act} {Q : Exit → Act → World → Prop} (hgd : o.guard = none) (sl x : Operand) (t : TypeId)
  (ho : o.op = .call { callee := .builtin .append, args := #[sl, x], argTypes := #[t, t] })
  (base : Nat) (e : TypeId) (i : TypeInfo) (z : Value) (size bytes : Nat) (ht : P.underlying t = some (.slice e)) (hi : P.info? e = some i) (hz : i.zero = some z)
  (y6 : i.size = size) (Qh : i.bytes = bytes) (RZ : z.cells.size = size) (b8 : 0 < size)
  (v : Value) (n : Nat) (xs : List Value) (hs : a.eval sl = v) (cY : w.ownsRow base e size v n xs)
  (ad : Addr) (m c : Nat) (news : List Value) (hx : a.eval x = .slice (some ad) m c) (hl : news.length = m * size) (oE : ∀ j u, news[j]? = some u → w.cell? (ad.add j) = some u) (h1 : ∀ u ∈ news, u.oneCell' = true)
  (Uh : n + m ≤ maxLen) (NC : (n + m) * bytes ≤ 140737488355328) (ER : base ≤ w.heap.size)
  (h : ∀ v' w', Hid (w'.ownsRow base e size v' (n + m) (xs ++ news)) → Hid (w.grownBy w' v.ownBlock) → Hid (v'.ownBlock = v.ownBlock ∨ ∃ k, v'.ownBlock = some k ∧ w.heap.size ≤ k) → Hid (∃ a c, v' = .slice a (n + m) c) → wpList P ops Q rest (a.put o.dst v') w') : wpList P ops Q (o :: rest) a w := by
 refine wpList_plain hgd fun K hK => ?_
 obtain ⟨v', w', hr, h2, h3, h4, h5⟩ := jH (P := P) w base t o.type e i z size bytes ht hi hz y6 Qh RZ b8 v n xs cY ad m c news hl oE h1 Uh NC ER
 unfold Oper.wp execOp
 simp only [ho, resolve, invoke, builtin, Sem.run_bind, Sem.run_pure, Result.andThen_ok, List.map_toArray, List.map_cons, List.map_nil, hs, hx, hr]
 exact hK _ _ (h v' w' h2 h3 h4 h5)
theorem E9 {K : SK} (hK : K.Ok) {w : World} {vv : Value} {code place deep ret loops outs : Int} {zs : List Int} {vs : List Vr} (h : SRaw K w vv code place deep ret loops outs zs vs) (c : Int) (p : Nat) :
  Calls Tryz.prog 46 #[.pointer (some ⟨K.cb, 0, none⟩), .int .i64 c, .int .i64 p] w fun e w' => e = .returned (.tuple #[]) ∧ SRaw K w' vv (if code = 0 then c else code) (if code = 0 then (p : Int) else place) deep ret loops outs zs vs ∧ Kept (fun k => k = K.cb) w w' := by
 obtain ⟨k0, k1, k2, k3, k4, k5, k6, k7, k8, k9, qK, pR⟩ := h.cells
 have f5 := h.free 5
 have f6 := h.free 6
 have HR := aa h
 clear h k0 k1 k2 k3 k4 k7 k8 k9 qK pR
 by_cases hz : code = 0
 ·subst hz
  go_enter Tryz.func46, Tryz.ntmps46
  go_wp2
  go_end0
  have r1 := HR.out.set hK (i := 5) (u := .int .i64 c) (code' := c) (place' := place) (deep' := deep) (ret' := ret) (loops' := loops) (outs' := outs) rfl
  have r2 := r1.set hK (i := 6) (u := .int .i64 p) (code' := c) (place' := p) (deep' := deep) (ret' := ret) (loops' := loops) (outs' := outs) rfl
  exact ⟨rfl, r2, (Kept.setCell (S := fun k => k = K.cb) ⟨K.cb, 5, none⟩ _ rfl).trans (Kept.setCell (S := fun k => k = K.cb) ⟨K.cb, 6, none⟩ _ rfl) (fun _ _ h => h)⟩
 ·have hz' : (code == 0) = false := bn hz
  go_enter Tryz.func46, Tryz.ntmps46
  go_wp2
  go_end0
  exact ⟨rfl, HR.out, Kept.refl _ _⟩
end Go.Proofs.YteaocammohcgoaaGreatDoor
