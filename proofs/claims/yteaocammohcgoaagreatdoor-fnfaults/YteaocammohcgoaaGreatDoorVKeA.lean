import Derived.Test.YteaocammohcgoaaGreatDoorVKdN
set_option linter.unusedVariables false
set_option maxHeartbeats 16000000
set_option maxRecDepth 100000
namespace Go.Proofs.YteaocammohcgoaaGreatDoor
open Go.RowKit
variable {G : Prop}
theorem bN0 (h : G := by
 cases hm : m s with
 |none => rw [hm] at mh; simp [hv] at mh; rw [mh.1]; rfl
 |some x => rw [hm] at mh; simp [hv] at mh; rw [mh.1]; rfl) : G := h
theorem bN1 (h : G := by
 clear h0
 go_enter Tryz.func117, Tryz.ntmps117
 go_wp2_with (first
  |(go_at_call 131; refine (kG.out _).mono ?_; rintro e w1 ⟨rfl, rfl⟩)
  |(go_at_call 116; refine (HC.out _).mono ?_; rintro e w2 ⟨rfl, aC⟩; have bR := aa aC; clear aC))
 first
 |clear k_N1_0
  go_end0
  exact ⟨rfl, gK.out _ _ _ _ _ bR.out⟩
 |clear k_N1_1
  exact ⟨rfl, rfl, yx.out _ _ _ _ _ bR.out⟩) : G := h
theorem bN2 (h : G := by
 go_enter Tryz.func116, Tryz.ntmps116
 go_wp2_with (first
  |(go_at_call 131; refine (kG.out _).mono ?_; rintro e w1 ⟨rfl, rfl⟩)
  |(go_at_call 121; refine (HC.out _).mono ?_; rintro e w2 ⟨rfl, aC⟩; have bR := aa aC; clear aC))
 first
 |clear k_N2_0
  go_ret
  exact ⟨rfl, gK.out _ _ _ _ _ bR.out⟩
 |clear k_N2_1
  exact ⟨rfl, rfl, yx.out _ _ _ _ _ bR.out⟩) : G := h
theorem bN3 (h : G := by
  obtain ⟨E0, X⟩ := s
  cases E0 with
  | nil => exact absurd rfl hs
  | cons l E =>
  obtain ⟨sv, tv, bs0, h1, h2⟩ := h.is
  cases bs0 with
  | nil => exact h1.maps.elim
  | cons b bs =>
  have EF := h1.maps.2.2.2.len
  first
  | clear k_N3_0
    obtain ⟨k0, k1, k2, k4, k7, k8⟩ := h1.cells
    have bN := h.lt
    have hnc : (l :: E).length = E.length + 1 := rfl
    have dJ := h1.sc
    obtain ⟨a, c, pU, eM, iG⟩ := gg h1.sc
    obtain ⟨g, rfl⟩ : ∃ g, sv = .slice (some ⟨g, 0, none⟩) (E.length + 1) c := by
      rcases h1.sc.2 with ⟨e1, e2⟩ | ⟨g, cap, cur, e1, _⟩
      · simp at e2
      · rw [pU] at e1; injection e1 with e1 e2 e3; subst e1; exact ⟨g, pU⟩
    have bM : w.cell? ⟨g, E.length, none⟩ = some (.map (some b)) := by
      have := h1.sc.cells (g := g) rfl E.length (.map (some b)) (by rw [mG, List.getElem?_append_right (by rw [lN, EF]; exact Nat.le_refl _), lN, EF]; simp)
      rw [iD] at this
      exact this
    have rY : ∀ q ∈ l, q.2 ≠ 0 := h.len.full l (by simp)
    have aM := Du rY t
    have lW := h1.maps.1.look (t := 142) Tryz.underlying142 (CD w) ht
    rw [pF] at lW
    have HR := aa h1
    have HO := aa h2
    have HS := aa h
    have HLK : Hid (∀ n, (Instr.lookup 142 (.map (some b)) (.string t) false).run Tryz.prog (w.drewN n) = .ok (.int .i64 (me l t)) (w.drewN n)) := fun n => by
      have := (h1.maps.1.same (w' := w.drewN n) rfl).look (t := 142) Tryz.underlying142 (CD _) ht
      rw [pF] at this; exact this
    have dK : E.length ≤ 1048577 := by have := h.ok.few; have := h.len.few; have := h.len.deep; dsimp only [List.length_cons] at *; omega
    have e1 : ((E.length + 1 : Nat) : Int) - 1 = E.length := by omega
    have TL : ((E.length : Nat) : Int) < ((E.length + 1 : Nat) : Int) := by omega
    have Py := aa (h.len.push t iA hv)
    have qV : l.length ≤ 1048576 := by have : aN (l :: E) = l.length + aN E := (by simp [aN]); have := h.ok.few; have := h.len.few; dsimp only at *; omega
    by_cases h0 : me l t = 0
    · have pV : ir (l :: E, X) t ty p = .ok (((t, ty) :: l) :: E, X) := by
        unfold ir
        exact if_neg (fun hh : oC (l :: E) t = true => (aM.1 hh) h0)
      rw [pV]
      show Calls _ _ _ _ fun e w' => _ ∧ _
      rw [h0] at HLK
      clear h h1 h2 dJ lW aM pV rY h0
      go_enter Tryz.func91, Tryz.ntmps91
      go_wp2
      go_quiet (fail)
      have lW := HLK.out nq
      go_wp2_with (at_mapUpdate; refine pw rfl _ _ _ 142 3 rfl Tryz.underlying142 b l.length (KE l) rfl (HR.out.maps.1.same rfl) (by unfold maxLen; omega) t ht (.int .i64 ty) rfl rfl ?_; intro w3 Np mq; have HM3 := aa Np; have HG3 := aa mq; clear Np mq)
      go_end0
      refine ⟨rfl, ?_⟩
      have fz : (w.drewN nq).grownBy w3 (some b) := HG3.out
      have EL : w.grownBy w3 (some b) := ⟨fz.os, fz.tape, fz.output, fz.size, fz.block⟩
      have ET := HR.out.maps.mem b (by simp)
      have jk : IRaw K w3 (.slice (some ⟨g, 0, none⟩) (E.length + 1) c) tv (b :: bs) (((t, ty) :: l) :: E, X) ret loops ai := by
        obtain ⟨f0, f2, f3, fU⟩ := HR.out.blk
        refine ⟨⟨f0, f2, f3, (EL.block _ HR.out.lt (fun e => ?_)).trans fU⟩, dM HR.out.sc fun k hk => EL.block k (HR.out.sc.lt k hk).2 (fun e => gZ HR.out.sc ET.2.2 (by rw [hk, e])), dM HR.out.ty fun k hk => EL.block k (HR.out.ty.lt k hk).2 (fun e => gZ HR.out.ty ET.2.2 (by rw [hk, e])), ?_⟩
        · injection e with e; have := HS.out.ok.cu; omega
        · refine ⟨by rw [← Dv]; exact HM3.out, HR.out.maps.2.1, HR.out.maps.2.2.1, HR.out.maps.2.2.2.same fun k hk => EL.block k (HR.out.maps.2.2.2.mem k hk).2.1 fun e => ?_⟩
          injection e with e; subst e; exact HR.out.maps.2.2.1 hk
      refine HS.out.step HR.out HO.out jk (fun k hk => .inl hk) Py.out ?_
      exact Kept.grown EL (fun k hk => by injection hk with hk; subst hk; exact .inr (.inr (.inr (by simp))))
    · have pV : ir (l :: E, X) t ty p = .error (6, p) := by
        unfold ir
        exact if_pos (show oC (l :: E) t = true from aM.2 h0)
      rw [pV]
      show Calls _ _ _ _ fun e w' => _ ∧ _
      have qd : (me l t == 0) = false := bn h0
      clear h h1 h2 dJ lW aM pV rY h0
      generalize me l t = sk at *
      go_enter Tryz.func91, Tryz.ntmps91
      go_wp2
      go_quiet (fail)
      have lW := HLK.out nq
      go_wp2
      exact ⟨rfl, rfl, (below_drewN w nq).mono (by have := HS.out.ok.cl; omega)⟩
  | clear k_N3_1
    obtain ⟨a, c, rfl, eM, iG⟩ := gg h1.sc
    obtain ⟨k0, k1, k2, k4, k7, k8⟩ := h1.cells
    have f1 := h1.free 1
    have hlen := h.len.leave
    have bN := h.lt
    have HR := aa h1
    have HO := aa h2
    have HS := aa h
    have bH := jK
    have wb : (((l :: E).length : Nat) : Int) - 1 = E.length := by simp
    have Te : (l :: E).length = E.length + 1 := rfl
    have dK : E.length ≤ 1048577 := by have := h.ok.few; have := hlen.few; have := hlen.deep; dsimp only at *; omega
    rw [Te] at k1 eM
    clear h h1 h2 wb
    go_enter Tryz.func93, Tryz.ntmps93
    have Bd : IntKind.i64.wrap (E.length : Int) = E.length := by simp [IntKind.wrap, IntKind.bits, IntKind.signed]; omega
    have hcI : (E.length : Int) ≤ (c : Int) := by omega
    have hcN : E.length ≤ c := by omega
    go_wp2
    go_still_tail 14, bH
    go_wp2
    go_end0
    refine ⟨rfl, ?_⟩
    have jk := HR.out.putS (w1 := w) HS.out.ok (sv' := .slice a E.length c) (E := E) (bs' := bs) ⟨rfl, rfl, rfl, Nat.le_refl _, fun _ _ _ => rfl⟩ (by
      have := yS HR.out.sc (k := E.length) (by show E.length ≤ (l :: E).length; simp)
      rw [mG, Nat.mul_one, ← EF, ← lN bs, List.take_left, lN, EF] at this
      exact this) HR.out.maps.2.2.2
    refine IS.drew (HS.out.step HR.out HO.out jk ?_ hlen ?_)
    · rintro k (e | e | e)
      · exact .inl (.inl (by cases a <;> exact e))
      · exact .inl (.inr (.inl e))
      · exact .inl (.inr (.inr (List.mem_cons_of_mem _ e)))
    · exact Kept.setCell (S := fun k => k = K.cb ∨ Own (.slice a (l :: E).length c) tv (b :: bs) k) ⟨K.cb, 1, none⟩ _ (.inl rfl)) : G := h
def hv (v : Value) : Option (DataW Value × List MemPlace) := some (.held v, [])
def MapAt (w : World) (b n : Nat) (m : ByteArray → Option Value) : Prop :=
 ∃ D : DataW Value, w.ownsMap Tryz.prog 9 hv b n D ∧ Maps.IsMap D ∧ ∀ s : ByteArray, (∀ z, D.atKey (.string s.data.toList) z = match m s with | some v => .held v | none => z) ∧ Maps.has D (.string s.data.toList) = (m s).isSome
def tZ (m : ByteArray → Option Value) (s : ByteArray) (v : Value) : ByteArray → Option Value := fun t => if t = s then some v else m t
theorem Mb : Maps.Keyed Tryz.prog 9 := Maps.string_keyed Tryz.underlying9
theorem xk (w : World) : MapAt (w.alloc (.map #[] 0)) w.heap.size 0 (fun _ => none) :=
 ⟨.map [], World.ownsMap_made w _ _ _, Maps.isMap_empty, fun s => ⟨fun z => rfl, rfl⟩⟩
theorem MapAt.lt {w : World} {b n : Nat} {m : ByteArray → Option Value} (h : MapAt w b n m) : b < w.heap.size := by obtain ⟨D, h1, _⟩ := h; exact h1.lt
theorem MapAt.mono {w : World} {b n n' : Nat} {m : ByteArray → Option Value} (h : MapAt w b n m) (hn : n ≤ n') : MapAt w b n' m := by obtain ⟨D, h1, h2⟩ := h; exact ⟨D, h1.mono hn, h2⟩
theorem MapAt.same {w w' : World} {b n : Nat} {m : ByteArray → Option Value} (h : MapAt w b n m) (hb : w'.heap[b]? = w.heap[b]?) : MapAt w' b n m := by
 obtain ⟨D, ⟨es, clock, h1, h2⟩, h3⟩ := h
 exact ⟨D, ⟨es, clock, hb.trans h1, h2⟩, h3⟩
theorem MapAt.isMap {w : World} {b n : Nat} {m : ByteArray → Option Value} (h : MapAt w b n m) : ∃ es clock, w.heap[b]? = some (.map es clock) := by
 obtain ⟨D, ⟨es, clock, h1, h2⟩, h3⟩ := h
 exact ⟨es, clock, h1⟩
theorem MapAt.look {w : World} {b n : Nat} {m : ByteArray → Option Value} (h : MapAt w b n m) {t e : TypeId} (ht : Tryz.prog.underlying t = some (.map 9 e)) {z : Value} (hz : (zeroValue e).run Tryz.prog w = .ok z w) {s : ByteArray} (hs : s.size ≤ maxLen) :
  (Instr.lookup t (.map (some b)) (.string s) false).run Tryz.prog w = .ok ((m s).getD z) w := by
 obtain ⟨D, h1, h2, h3⟩ := h
 obtain ⟨v, ps, hr, mh⟩ := h1.lookup Mb ht hz (zd := .held z) (zp := []) rfl (WideMaps.keyOf_string_mk Tryz.underlying9 hs)
 rw [(h3 s).1] at mh
 rw [hr]
 exact bN0
theorem MapAt.lookOk {w : World} {b n : Nat} {m : ByteArray → Option Value} (h : MapAt w b n m) {t e : TypeId} (ht : Tryz.prog.underlying t = some (.map 9 e)) {z : Value} (hz : (zeroValue e).run Tryz.prog w = .ok z w) {s : ByteArray} (hs : s.size ≤ maxLen) :
  (Instr.lookup t (.map (some b)) (.string s) true).run Tryz.prog w = .ok (.tuple #[(m s).getD z, .bool (m s).isSome]) w := by
 obtain ⟨D, h1, h2, h3⟩ := h
 obtain ⟨v, ps, hr, mh⟩ := h1.look_ok Mb ht hz (zd := .held z) (zp := []) rfl (WideMaps.keyOf_string_mk Tryz.underlying9 hs)
 rw [(h3 s).1] at mh
 rw [hr, (h3 s).2]
 exact bN0
theorem Mp {s t : ByteArray} (h : ¬ t = s) : (Lit.string t.data.toList) ≠ Lit.string s.data.toList := by
 intro e
 injection e with e
 apply h
 have : t.data = s.data := by simpa using e
 cases t; cases s; simp_all
theorem MapAt.put {w : World} {b n : Nat} {m : ByteArray → Option Value} (h : MapAt w b n m) {t e : TypeId} (ht : Tryz.prog.underlying t = some (.map 9 e)) (hn : n < maxLen) {s : ByteArray} (hs : s.size ≤ maxLen) (v : Value) :
  ∃ w', (Instr.mapUpdate t (.map (some b)) (.string s) v).run Tryz.prog w = .ok () w' ∧ MapAt w' b (n + 1) (tZ m s v) ∧ w.grownBy w' (some b) := by
 obtain ⟨D, h1, h2, h3⟩ := h
 obtain ⟨w', r1, r2, r3⟩ := h1.update Mb ht hn (WideMaps.keyOf_string_mk Tryz.underlying9 hs) (show hv v = some (.held v, []) from rfl)
 refine ⟨w', r1, ⟨_, r2, h2.put _ _, fun u => ?_⟩, r3⟩
 by_cases e : u = s
 ·subst e
  unfold tZ
  rw [if_pos rfl]
  exact ⟨fun z => Maps.atKey_put_same h2 (by exact trivial) _ _, Maps.has_put_same h2 (by exact trivial) _⟩
 ·unfold tZ
  rw [if_neg e]
  have := Mp e
  exact ⟨fun z => by rw [Maps.atKey_put_other this]; exact (h3 u).1 z, by rw [Maps.has_put_other this]; exact (h3 u).2⟩
theorem pw {w : World} {ops : Array Oper} {rest : List Oper} {o : Oper} {a : Act} {Q : Exit → Act → World → Prop}
  (hg : o.guard = none) (mo x v : Operand) (t e : TypeId) (hop : o.op = Op.mapUpdate t mo x v) (ht : Tryz.prog.underlying t = some (.map 9 e)) (b n : Nat) (m : ByteArray → Option Value)
  (hm : a.eval mo = .map (some b)) (h : MapAt w b n m) (hn : n < maxLen) (s : ByteArray) (hs : s.size ≤ maxLen) (val : Value) (hx : a.eval x = .string s) (mh : a.eval v = val)
  (hK : ∀ w', MapAt w' b (n + 1) (tZ m s val) → w.grownBy w' (some b) → wpList Tryz.prog ops Q rest (a.put o.dst undef) w') : wpList Tryz.prog ops Q (o :: rest) a w := by
 refine wpList_plain hg fun K' hK' => ?_
 obtain ⟨w', ei, r1, r2⟩ := h.put ht hn hs val
 unfold Oper.wp
 simp [execOp, hop, hm, hx, mh, ei, Result.andThen]
 exact hK' _ _ (hK w' r1 r2)
structure IK where
 cb : Nat
 mf : Nat
 lo : Nat
 up : Nat
 N : Nat
 F : Nd
 fv : Value
 uf : Nat → Value
structure IK.Ok (K : IK) : Prop where
 cl : K.lo ≤ K.cb
 ml : K.lo ≤ K.mf
 cu : K.cb < K.up
 mu : K.mf < K.up
 ne : K.cb ≠ K.mf
 few : K.N ≤ 1048576
 tight : K.up ≤ K.cb + 1 ∨ K.up ≤ K.mf + 1
def IK.fns (K : IK) (n : Nat) : ByteArray → Option Value := fun s => (dp K.F s n).map fun j => .agg #[.int .i64 (K.F.kids j).kind, .int .i64 (K.F.kids j).num, .string (K.F.kids j).name, K.uf j]
def KE (l : List (ByteArray × Int)) : ByteArray → Option Value := fun s => (l.find? (fun p => decide (p.1 = s))).map fun p => .int .i64 p.2
theorem pF (l : List (ByteArray × Int)) (s : ByteArray) : (KE l s).getD (.int .i64 0) = .int .i64 (me l s) := by
 unfold KE me
 cases l.find? (fun p => decide (p.1 = s)) <;> rfl
theorem Dv (l : List (ByteArray × Int)) (s : ByteArray) (t : Int) : tZ (KE l) s (.int .i64 t) = KE ((s, t) :: l) := by
 funext u
 unfold tZ KE
 by_cases e : u = s
 ·subst e; simp
 ·have e' : ¬ s = u := fun h => e h.symm
  simp [e, e']
def Mps (w : World) (up : Nat) : List Nat → Sc → Prop
 |[], [] => True
 |b :: bs, l :: E => MapAt w b l.length (KE l) ∧ up ≤ b ∧ b ∉ bs ∧ Mps w up bs E
 |_, _ => False
theorem Mps.len {w : World} {up : Nat} : ∀ {bs : List Nat} {E : Sc}, Mps w up bs E → bs.length = E.length
 |[], [], _ => rfl
 |b :: bs, l :: E, h => by simp [h.2.2.2.len]
 |[], _ :: _, h => h.elim
 |_ :: _, [], h => h.elim
theorem Mps.same {w w' : World} {up : Nat} : ∀ {bs : List Nat} {E : Sc}, Mps w up bs E → (∀ b ∈ bs, w'.heap[b]? = w.heap[b]?) → Mps w' up bs E
 |[], [], _, _ => trivial
 |b :: bs, l :: E, h, hb => ⟨h.1.same (hb b (by simp)), h.2.1, h.2.2.1, h.2.2.2.same fun k hk => hb k (by simp [hk])⟩
 |[], _ :: _, h, _ => h.elim
 |_ :: _, [], h, _ => h.elim
theorem Mps.mem {w : World} {up : Nat} : ∀ {bs : List Nat} {E : Sc}, Mps w up bs E → ∀ b ∈ bs, up ≤ b ∧ b < w.heap.size ∧ ∃ es clock, w.heap[b]? = some (.map es clock)
 |[], [], _, b, hb => by cases hb
 |b :: bs, l :: E, h, k, hk => by
  rcases List.mem_cons.1 hk with rfl | hk
  ·exact ⟨h.2.1, h.1.lt, h.1.isMap⟩
  ·exact h.2.2.2.mem k hk
 |[], _ :: _, h, _, _ => h.elim
 |_ :: _, [], h, _, _ => h.elim
def ox (bs : List Nat) : List Value := (bs.map fun b => Value.map (some b)).reverse
structure IRaw (K : IK) (w : World) (sv tv : Value) (bs : List Nat) (s : CS) (ret loops ai : Int) : Prop where
 blk : ∃ f0 f2 f3 : Value, w.heap[K.cb]? = some (.cells #[.map (some K.mf), sv, tv, f0, .int .i64 ret, f2, f3, .int .i64 loops, .int .i64 ai] 76 (0, 0))
 sc : w.ownsRow K.up 142 1 sv s.1.length (ox bs)
 ty : w.ownsRow K.up 3 1 tv s.2.length (s.2.map (Value.int .i64))
 maps : Mps w K.up bs s.1
def Own (sv tv : Value) (bs : List Nat) (k : Nat) : Prop := sv.ownBlock = some k ∨ tv.ownBlock = some k ∨ k ∈ bs
structure ILen (K : IK) (s : CS) : Prop where
 vars : aN s.1 ≤ s.2.length
 deep : s.1.length ≤ s.2.length + 1
 few : s.2.length ≤ K.N
 full : ∀ l ∈ s.1, ∀ p ∈ l, p.2 ≠ 0
def IK.S (K : IK) (O : Nat → Prop) : Nat → Prop := fun k => k = K.cb ∨ O k
structure IS (K : IK) (w0 : World) (O : Nat → Prop) (s : CS) (ret loops ai : Int) (w : World) : Prop where
 ok : K.Ok
 is : ∃ sv tv bs, IRaw K w sv tv bs s ret loops ai ∧ ∀ k, Own sv tv bs k → O k ∨ w0.heap.size ≤ k
 fn : MapAt w K.mf K.F.len (K.fns K.F.len)
 len : ILen K s
 base : K.mf < w0.heap.size ∧ ¬ O K.mf
 kept : Kept (K.S O) w0 w
theorem IRaw.lt {K : IK} {w : World} {sv tv : Value} {bs : List Nat} {s : CS} {ret loops ai : Int} (h : IRaw K w sv tv bs s ret loops ai) : K.cb < w.heap.size := by
 obtain ⟨f0, f2, f3, h1⟩ := h.blk; exact (Array.getElem?_eq_some_iff.1 h1).1
theorem IRaw.own {K : IK} {w : World} {sv tv : Value} {bs : List Nat} {s : CS} {ret loops ai : Int} (h : IRaw K w sv tv bs s ret loops ai) : ∀ k, Own sv tv bs k → K.up ≤ k ∧ k < w.heap.size := by
 rintro k (h1 | h1 | h1)
 ·exact h.sc.lt k h1
 ·exact h.ty.lt k h1
 ·exact ⟨(h.maps.mem k h1).1, (h.maps.mem k h1).2.1⟩
theorem IRaw.calm {K : IK} {w w' : World} {sv tv : Value} {bs : List Nat} {s : CS} {ret loops ai : Int} (h : IRaw K w sv tv bs s ret loops ai) (hb : Below w.heap.size w w') : IRaw K w' sv tv bs s ret loops ai := by
 obtain ⟨f0, f2, f3, h1⟩ := h.blk
 exact ⟨⟨f0, f2, f3, (hb.block _ h.lt).trans h1⟩, dM h.sc fun k hk => hb.block k (h.sc.lt k hk).2, dM h.ty fun k hk => hb.block k (h.ty.lt k hk).2, h.maps.same fun b Gg => hb.block b (h.maps.mem b Gg).2.1⟩
theorem IS.lt {K : IK} {w0 : World} {O : Nat → Prop} {s : CS} {ret loops ai : Int} {w : World} (h : IS K w0 O s ret loops ai w) : K.cb < w.heap.size ∧ K.mf < w.heap.size := by
 obtain ⟨sv, tv, bs, h1, _⟩ := h.is; exact ⟨h1.lt, h.fn.lt⟩
theorem IS.calm {K : IK} {w0 : World} {O : Nat → Prop} {s : CS} {ret loops ai : Int} {w w' : World} (h : IS K w0 O s ret loops ai w) (hb : Below w.heap.size w w') : IS K w0 O s ret loops ai w' := by
 obtain ⟨sv, tv, bs, h1, h2⟩ := h.is
 exact ⟨h.ok, ⟨sv, tv, bs, h1.calm hb, h2⟩, h.fn.same (hb.block _ h.fn.lt), h.len, h.base, h.kept.trans (bG hb (K.S O)) (fun _ _ h => h)⟩
theorem IS.alloc {K : IK} {w0 : World} {O : Nat → Prop} {s : CS} {ret loops ai : Int} {w : World} (h : IS K w0 O s ret loops ai w) (o : Obj) : IS K w0 O s ret loops ai (w.alloc o) :=
 h.calm (bA)
theorem IS.drew {K : IK} {w0 : World} {O : Nat → Prop} {s : CS} {ret loops ai : Int} {w : World} (h : IS K w0 O s ret loops ai w) : IS K w0 O s ret loops ai w.drew :=
 h.calm ⟨rfl, rfl, rfl, Nat.le_refl _, fun _ _ => rfl⟩
theorem IS.restart {K : IK} {w0 : World} {O : Nat → Prop} {s : CS} {ret loops ai : Int} {w : World} (h : IS K w0 O s ret loops ai w) :
  ∃ O1 : Nat → Prop, IS K w O1 s ret loops ai w ∧ (∀ k, O1 k → K.up ≤ k ∧ k < w.heap.size) ∧ ∀ s' r' l' o' w', IS K w O1 s' r' l' o' w' → IS K w0 O s' r' l' o' w' := by
 obtain ⟨sv, tv, bs, h1, h2⟩ := h.is
 have M6 := h.kept.size
 have hm := h.ok.mu
 refine ⟨Own sv tv bs, ⟨h.ok, ⟨sv, tv, bs, h1, fun k hk => .inl hk⟩, h.fn, h.len, ⟨h.fn.lt, fun hk => by have := (h1.own _ hk).1; omega⟩, Kept.refl _ _⟩, h1.own, ?_⟩
 intro s' r' l' o' w' h'
 obtain ⟨sv', tv', bs', k1, k2⟩ := h'.is
 refine ⟨h.ok, ⟨sv', tv', bs', k1, fun k hk => ?_⟩, h'.fn, h'.len, h.base, h.kept.trans h'.kept ?_⟩
 ·rcases k2 k hk with e | e
  ·exact h2 k e
  ·exact .inr (by omega)
 ·rintro i hi (e | e)
  ·exact .inl e
  ·rcases h2 i e with e' | e'
   ·exact .inr e'
   ·omega
theorem IS.keep {K : IK} {w0 : World} {O : Nat → Prop} {s : CS} {ret loops ai : Int} {w : World} (h : IS K w0 O s ret loops ai w) {k : Nat} (hk : k < w0.heap.size) (h1 : k ≠ K.cb) (h2 : ¬ O k) : w.heap[k]? = w0.heap[k]? :=
 h.kept.block k hk (by rintro (e | e) <;> contradiction)
theorem IS.below {K : IK} {w0 : World} {O : Nat → Prop} {s : CS} {ret loops ai : Int} {w : World} (h : IS K w0 O s ret loops ai w) (h0 : K.lo ≤ w0.heap.size) (ho : ∀ k, O k → K.up ≤ k) : Below K.lo w0 w :=
 h.kept.below h0 (by rintro k (e | e); have := h.ok.cl; omega; have := h.ok.cl; have := h.ok.cu; have := ho k e; omega)
theorem IS.boxed {K : IK} {w0 : World} {O : Nat → Prop} {s : CS} {ret loops ai : Int} {w : World} (h : IS K w0 O s ret loops ai w) (o : Obj) : ∃ O1 : Nat → Prop, IS K (w.alloc o) O1 s ret loops ai (w.alloc o) ∧ (∀ s' r' l' o' W, IS K (w.alloc o) O1 s' r' l' o' W → IS K w0 O s' r' l' o' W) ∧
  (∀ s' r' l' o' W, IS K (w.alloc o) O1 s' r' l' o' W → W.heap[w.heap.size]? = some o) ∧ ∀ s' r' l' o' W, IS K (w.alloc o) O1 s' r' l' o' W → Below K.lo w W := by
 obtain ⟨sv, tv, bs, h1, h2⟩ := h.is
 have bN := h.lt
 have hb : Below w.heap.size w (w.alloc o) := bA
 have hm := h.ok.mu
 have M6 := h.kept.size
 have zr := h.ok.cl
 have g1 : IS K (w.alloc o) (Own sv tv bs) s ret loops ai (w.alloc o) := ⟨h.ok, ⟨sv, tv, bs, h1.calm hb, fun k hk => .inl hk⟩, h.fn.same (hb.block _ h.fn.lt), h.len, ⟨by simp; omega, fun hk => by have := (h1.own _ hk).1; omega⟩, Kept.refl _ _⟩
 refine ⟨Own sv tv bs, g1, ?_, ?_, ?_⟩
 ·intro s' r' l' o' W h'
  obtain ⟨sv', tv', bs', k1, k2⟩ := h'.is
  have IF : Kept (K.S O) w0 (w.alloc o) := h.kept.trans (bG hb (K.S O)) (fun _ _ h => h)
  refine ⟨h.ok, ⟨sv', tv', bs', k1, fun k hk => ?_⟩, h'.fn, h'.len, h.base, IF.trans h'.kept ?_⟩
  ·rcases k2 k hk with e | e
   ·exact h2 k e
   ·refine .inr ?_
    simp at e; omega
  ·rintro i hi (e | e)
   ·exact .inl e
   ·rcases h2 i e with e' | e'
    ·exact .inr e'
    ·omega
 ·intro s' r' l' o' W h'
  rw [h'.keep (k := w.heap.size) (by simp) (by omega) (fun e => by have := (h1.own _ e).2; omega)]
  exact heap_alloc_new w o
 ·intro s' r' l' o' W h'
  exact (hb.mono (by omega)).trans (h'.below (by simp; omega) fun k hk => (h1.own k hk).1)
theorem IRaw.cells {K : IK} {w : World} {sv tv : Value} {bs : List Nat} {s : CS} {ret loops ai : Int} (h : IRaw K w sv tv bs s ret loops ai) :
  w.cell? ⟨K.cb, 0, none⟩ = some (.map (some K.mf)) ∧ w.cell? ⟨K.cb, 1, none⟩ = some sv ∧ w.cell? ⟨K.cb, 2, none⟩ = some tv ∧ w.cell? ⟨K.cb, 4, none⟩ = some (.int .i64 ret) ∧ w.cell? ⟨K.cb, 7, none⟩ = some (.int .i64 loops) ∧ w.cell? ⟨K.cb, 8, none⟩ = some (.int .i64 ai) := by
 obtain ⟨f0, f2, f3, h1⟩ := h.blk
 refine ⟨?_, ?_, ?_, ?_, ?_, ?_⟩ <;> simp [World.cell?, h1]
theorem IRaw.free {K : IK} {w : World} {sv tv : Value} {bs : List Nat} {s : CS} {ret loops ai : Int} (h : IRaw K w sv tv bs s ret loops ai) (i : Nat) : w.frozen? ⟨K.cb, i, none⟩ = false := by
 obtain ⟨f0, f2, f3, h1⟩ := h.blk
 exact frozen_of_row w K.cb i _ _ h1
theorem gg {w : World} {base n : Nat} {e : TypeId} {size : Nat} {v : Value} {xs : List Value} (h : w.ownsRow base e size v n xs) : ∃ a c, v = .slice a n c ∧ n ≤ c ∧ c ≤ 9223372036854775807 := by
 rcases h.2 with ⟨rfl, e⟩ | ⟨g, cap, cur, rfl, _, _, h4, h5, _⟩
 ·exact ⟨none, 0, by rw [e], by rw [e]; simp, by omega⟩
 ·exact ⟨_, _, rfl, h4, by unfold maxLen at h5; omega⟩
theorem nT {w : World} {base n : Nat} {e : TypeId} {size : Nat} {v : Value} {xs : List Value} (h : w.ownsRow base e size v n xs) {k : Nat} (hk : v.ownBlock = some k) : ∃ cur, w.heap[k]? = some (.cells cur e (0, 0)) := by
 rcases h.2 with ⟨rfl, e⟩ | ⟨g, cap, cur, rfl, _, h3, _⟩
 ·cases hk
 ·injection hk with hk; subst hk; exact ⟨_, h3⟩
theorem IRaw.apart {K : IK} {w : World} {sv tv : Value} {bs : List Nat} {s : CS} {ret loops ai : Int} (h : IRaw K w sv tv bs s ret loops ai) {k : Nat} (h1 : sv.ownBlock = some k) : some k ≠ tv.ownBlock := by
 intro h2
 obtain ⟨c1, e1⟩ := nT h.sc h1
 obtain ⟨c2, e2⟩ := nT h.ty h2.symm
 rw [e1] at e2
 injection e2 with e2
 injection e2 with _ e2
 revert e2; decide
theorem gZ {w : World} {base n : Nat} {e : TypeId} {size : Nat} {v : Value} {xs : List Value} (h : w.ownsRow base e size v n xs) {b : Nat} (hm : ∃ es clock, w.heap[b]? = some (.map es clock)) : some b ≠ v.ownBlock := by
 intro h2
 obtain ⟨c2, e2⟩ := nT h h2.symm
 obtain ⟨es, clock, e1⟩ := hm
 rw [e1] at e2
 cases e2
theorem IRaw.putT {K : IK} (hK : K.Ok) {w w1 : World} {sv tv tv' : Value} {bs : List Nat} {s : CS} {X : List Int} {ret loops ai : Int} (h : IRaw K w sv tv bs s ret loops ai) (hg : w.grownBy w1 tv.ownBlock)
  (ho : w1.ownsRow K.up 3 1 tv' X.length (X.map (Value.int .i64))) : IRaw K (w1.setCell ⟨K.cb, 2, none⟩ tv') sv tv' bs (s.1, X) ret loops ai := by
 obtain ⟨f0, f2, f3, h1⟩ := h.blk
 have pY := hK.cu
 have hc : w1.heap[K.cb]? = w.heap[K.cb]? := hg.block _ h.lt (fun e => by have := (h.ty.lt _ e.symm).1; omega)
 refine ⟨⟨f0, f2, f3, ?_⟩, ?_, ownsRow_setCell_below ho (show K.cb < K.up from pY) _, ?_⟩
 ·rw [heap_setCell_same w1 K.cb 2 _ _ tv' (hc.trans h1)]; rfl
 ·refine ownsRow_setCell_below (dM h.sc fun k hk => hg.block k (h.sc.lt k hk).2 (h.apart hk)) (show K.cb < K.up from pY) _
 ·refine h.maps.same fun b hb => ?_
  have hm := h.maps.mem b hb
  rw [Below.heap_setCell w1 ⟨K.cb, 2, none⟩ tv' b (fun e => by have e' : b = K.cb := e; omega)]
  exact hg.block b hm.2.1 (gZ h.ty hm.2.2)
theorem IRaw.putS {K : IK} (hK : K.Ok) {w w1 : World} {sv sv' tv : Value} {bs bs' : List Nat} {s : CS} {E : Sc} {ret loops ai : Int} (h : IRaw K w sv tv bs s ret loops ai) (hg : w.grownBy w1 sv.ownBlock)
  (ho : w1.ownsRow K.up 142 1 sv' E.length (ox bs')) (hm : Mps w1 K.up bs' E) : IRaw K (w1.setCell ⟨K.cb, 1, none⟩ sv') sv' tv bs' (E, s.2) ret loops ai := by
 obtain ⟨f0, f2, f3, h1⟩ := h.blk
 have pY := hK.cu
 have hc : w1.heap[K.cb]? = w.heap[K.cb]? := hg.block _ h.lt (fun e => by have := (h.sc.lt _ e.symm).1; omega)
 refine ⟨⟨f0, f2, f3, ?_⟩, ownsRow_setCell_below ho (show K.cb < K.up from pY) _, ?_, ?_⟩
 ·rw [heap_setCell_same w1 K.cb 1 _ _ sv' (hc.trans h1)]; rfl
 ·refine ownsRow_setCell_below (dM h.ty fun k hk => hg.block k (h.ty.lt k hk).2 fun e => h.apart e.symm hk.symm) (show K.cb < K.up from pY) _
 ·refine hm.same fun b hb => Below.heap_setCell w1 ⟨K.cb, 1, none⟩ sv' b fun e => ?_
  have := (hm.mem b hb).1
  have e' : b = K.cb := e
  omega
theorem IS.step {K : IK} {w0 : World} {O : Nat → Prop} {s s' : CS} {ret loops ai ret' loops' KC : Int} {w w' : World} (h : IS K w0 O s ret loops ai w) {sv tv sv' tv' : Value} {bs bs' : List Nat}
  (h1 : IRaw K w sv tv bs s ret loops ai) (ho : ∀ k, Own sv tv bs k → O k ∨ w0.heap.size ≤ k) (h2 : IRaw K w' sv' tv' bs' s' ret' loops' KC) (hn : ∀ k, Own sv' tv' bs' k → Own sv tv bs k ∨ w.heap.size ≤ k) (hl : ILen K s') (hk : Kept (fun k => k = K.cb ∨ Own sv tv bs k) w w') : IS K w0 O s' ret' loops' KC w' := by
 have M6 := h.kept.size
 have hm := h.ok.mu
 refine ⟨h.ok, ⟨sv', tv', bs', h2, fun k nZ => ?_⟩, h.fn.same (hk.block _ h.fn.lt ?_), hl, h.base, h.kept.trans hk ?_⟩
 ·rcases hn k nZ with e | e
  ·exact ho k e
  ·exact .inr (by omega)
 ·rintro (e | e)
  ·exact h.ok.ne e.symm
  ·have := (h1.own _ e).1; omega
 ·rintro i hi (e | e)
  ·exact .inl e
  ·rcases ho i e with e' | e'
   ·exact .inr e'
   ·omega
theorem pN {K : IK} {w0 : World} {O : Nat → Prop} {s : CS} {ret loops ai : Int} {w : World} (h : IS K w0 O s ret loops ai w) :
  Calls Tryz.prog 131 #[.pointer (some ⟨K.cb, 0, none⟩)] w fun e w' => e = .returned (.int .i64 s.2.length) ∧ w' = w := by
 obtain ⟨sv, tv, bs, h1, h2⟩ := h.is
 obtain ⟨a, c, rfl, eM, iG⟩ := gg h1.ty
 obtain ⟨k0, k1, k2, k4, k7, k8⟩ := h1.cells
 clear h h1 h2
 go_enter Tryz.func131, Tryz.ntmps131
 go_wp2
 go_ret
 exact ⟨rfl, rfl⟩
theorem ILen.take {K : IK} {s : CS} (h : ILen K s) (hn : s.2.length + 1 ≤ K.N) : ILen K (ae s) := by
 have := aP s
 exact ⟨by rw [this]; exact Nat.le_succ_of_le h.vars, by rw [this]; exact Nat.le_succ_of_le h.deep, by rw [this]; exact hn, h.full⟩
theorem ic {K : IK} {w0 : World} {O : Nat → Prop} {s : CS} {ret loops ai : Int} {w : World} (h : IS K w0 O s ret loops ai w) (hn : s.2.length + 1 ≤ K.N) :
  Calls Tryz.prog 69 #[.pointer (some ⟨K.cb, 0, none⟩)] w fun e w' => e = .returned (.int .i64 s.2.length) ∧ IS K w0 O (ae s) ret loops ai w' := by
 obtain ⟨sv, tv, bs, h1, h2⟩ := h.is
 obtain ⟨i0, lq, oQ, eT, ed⟩ := info_parts Ee
 have dK := h.ok.few
 have P0 : K.up ≤ w.heap.size := by have := h.lt; have := h.ok.tight; omega
 obtain ⟨k0, k1, k2, k4, k7, k8⟩ := h1.cells
 have f2 := h1.free 2
 have bN := h.lt
 have HR := aa h1
 have HO := aa h2
 have HS := aa h
 have HTY := aa h1.ty
 clear h h1 h2
 go_enter Tryz.func69, Tryz.ntmps69
 go_wp2_with (at_builtin; refine bp _ rfl _ _ 29 rfl K.up 3 i0 (.int .i64 0) 1 8 Tryz.underlying29 lq oQ eT ed rfl (by decide) _ s.2.length _ rfl (HTY.out.alloc _) ⟨w.heap.size, 0, none⟩ 1 1 [.int .i64 0] rfl rfl (by intro i u hu; rcases i with _ | i <;> simp_all [Addr.add]) (by intro u hu; simp at hu; subst hu; rfl) (by unfold maxLen; omega) (by omega) (by simp; omega) ?_; intro v' w3 mn aX uZ xz; obtain ⟨av, cv, rfl⟩ := xz.out; have Nu := (World.grownBy_alloc w (.cells #[.int .i64 0] 3) tv.ownBlock).trans aX.out; have IP : w3.heap[K.cb]? = w.heap[K.cb]? := Nu.block _ bN.1 (fun e => by have := (HTY.out.lt _ e.symm).1; have := HS.out.ok.cu; omega); have f2' : w3.frozen? ⟨K.cb, 2, none⟩ = false := (by rw [World.frozen?_of_block (a := ⟨K.cb, 2, none⟩) IP]; exact f2); have k2' : w3.cell? ⟨K.cb, 2, none⟩ = some tv := (by rw [World.cell?_of_block (a := ⟨K.cb, 2, none⟩) IP]; exact k2); have QE := aa Nu; clear Nu IP)
 go_ret
 refine ⟨rfl, ?_⟩
 have jk := HR.out.putT HS.out.ok (tv' := .slice av (s.2.length + 1) cv) (X := s.2 ++ [0]) QE.out (by have := mn.out; simpa using this)
 refine HS.out.step HR.out HO.out jk ?_ (HS.out.len.take hn) ?_
 ·rintro k (e | e | e)
  ·exact .inl (.inl e)
  ·rcases uZ.out with e1 | ⟨k1, e1, e2⟩
   ·exact .inl (.inr (.inl (e1 ▸ e)))
   ·rw [e1] at e; injection e with e; subst e; refine .inr ?_; simp at e2; omega
  ·exact .inl (.inr (.inr e))
 ·exact (Kept.grown QE.out (fun k hk => .inr (.inr (.inl hk)))).trans (Kept.setCell (S := fun k => k = K.cb ∨ Own sv tv bs k) ⟨K.cb, 2, none⟩ _ (.inl rfl)) (fun _ _ h => h)
theorem RI : (Tryz.prog.info? 142).map (fun i => (i.zero, i.size, i.bytes)) = some (some (.map none), 1, 8) := by kernel_rfl
theorem mG (b : Nat) (bs : List Nat) : ox (b :: bs) = ox bs ++ [.map (some b)] := by simp [ox]
theorem ILen.enter {K : IK} {s : CS} (h : ILen K s) (hd : s.1.length ≤ s.2.length) : ILen K ([] :: s.1, s.2) := by
 refine ⟨?_, ?_, h.few, ?_⟩
 ·have e : aN ([] :: s.1) = aN s.1 := by simp [aN]
  show aN ([] :: s.1) ≤ _; rw [e]; exact h.vars
 ·show ([] :: s.1).length ≤ _; simp; omega
 ·intro l hl p hp
  rcases List.mem_cons.1 hl with rfl | hl
  ·cases hp
  ·exact h.full l hl p hp
theorem dx {K : IK} {w0 : World} {O : Nat → Prop} {s : CS} {ret loops ai : Int} {w : World} (h : IS K w0 O s ret loops ai w) (hd : s.1.length ≤ s.2.length) :
  Calls Tryz.prog 90 #[.pointer (some ⟨K.cb, 0, none⟩)] w fun e w' => e = .returned (.tuple #[]) ∧ IS K w0 O ([] :: s.1, s.2) ret loops ai w' := by
 obtain ⟨sv, tv, bs, h1, h2⟩ := h.is
 obtain ⟨i0, lq, oQ, eT, ed⟩ := info_parts RI
 have dK := h.ok.few
 have hlen := h.len
 have P0 : K.up ≤ w.heap.size := by have := h.lt; have := h.ok.tight; omega
 obtain ⟨k0, k1, k2, k4, k7, k8⟩ := h1.cells
 have f1 := h1.free 1
 have bN := h.lt
 have hmm := @run_makeMap Tryz.prog
 have HR := aa h1
 have HO := aa h2
 have HS := aa h
 have FP := aa h1.sc
 have qW : s.1.length ≤ 1048577 := by have := hlen.few; omega
 have HLE := aa hlen
 clear h h1 h2 hlen
 go_enter Tryz.func90, Tryz.ntmps90
 go_wp2_with (at_builtin; refine bp _ rfl _ _ 74 rfl K.up 142 i0 (.map none) 1 8 Tryz.underlying74 lq oQ eT ed rfl (by decide) _ s.1.length _ rfl ((FP.out.alloc _).alloc _) ⟨w.heap.size + 1, 0, none⟩ 1 1 [.map (some w.heap.size)] rfl rfl (by intro i u hu; rcases i with _ | i <;> simp_all [Addr.add]) (by intro u hu; simp at hu; subst hu; rfl) (by unfold maxLen; omega) (by omega) (by simp; omega) ?_; intro v' w3 mn aX uZ xz; obtain ⟨av, cv, rfl⟩ := xz.out; have Nu := ((World.grownBy_alloc w (.map #[] 0) sv.ownBlock).trans (World.grownBy_alloc _ (.cells #[.map (some w.heap.size)] 142) sv.ownBlock)).trans aX.out; have IP : w3.heap[K.cb]? = w.heap[K.cb]? := Nu.block _ bN.1 (fun e => by have := (FP.out.lt _ e.symm).1; have := HS.out.ok.cu; omega); have f1' : w3.frozen? ⟨K.cb, 1, none⟩ = false := (by rw [World.frozen?_of_block (a := ⟨K.cb, 1, none⟩) IP]; exact f1); have k1' : w3.cell? ⟨K.cb, 1, none⟩ = some sv := (by rw [World.cell?_of_block (a := ⟨K.cb, 1, none⟩) IP]; exact k1); have QE := aa Nu; clear Nu IP)
 go_end0
 refine ⟨rfl, ?_⟩
 have K4 : ∀ k, sv.ownBlock = some k → k < w.heap.size := fun k hk => (FP.out.lt k hk).2
 have nr : MapAt w3 w.heap.size 0 (fun _ => none) := by
  refine ((xk w).same (Below.heap_alloc _ _ _ (by simp))).same (w := (w.alloc (.map #[] 0)).alloc (.cells #[.map (some w.heap.size)] 142)) (aX.out.block _ (by simp; omega) (fun e => ?_))
  have := K4 _ e.symm
  omega
 have hmps : Mps w3 K.up (w.heap.size :: bs) ([] :: s.1) := by
  refine ⟨nr, P0, fun hb => by have := (HR.out.maps.mem _ hb).2.1; omega, HR.out.maps.same fun b hb => QE.out.block b (HR.out.maps.mem b hb).2.1 (gZ FP.out (HR.out.maps.mem b hb).2.2)⟩
 have jk := HR.out.putS HS.out.ok (sv' := .slice av (s.1.length + 1) cv) (E := [] :: s.1) (bs' := w.heap.size :: bs) QE.out (by have := mn.out; rw [mG]; simpa using this) hmps
 refine HS.out.step HR.out HO.out jk ?_ (HLE.out.enter hd) ?_
 ·rintro k (e | e | e)
  ·rcases uZ.out with e1 | ⟨k1, e1, e2⟩
   ·exact .inl (.inl (e1 ▸ e))
   ·rw [e1] at e; injection e with e; subst e; refine .inr ?_; simp at e2; omega
  ·exact .inl (.inr (.inl e))
  ·rcases List.mem_cons.1 e with rfl | e
   ·exact .inr lr
   ·exact .inl (.inr (.inr e))
 ·exact (Kept.grown QE.out (fun k hk => .inr (.inl hk))).trans (Kept.setCell (S := fun k => k = K.cb ∨ Own sv tv bs k) ⟨K.cb, 1, none⟩ _ (.inl rfl)) (fun _ _ h => h)
theorem ILen.leave {K : IK} {l : List (ByteArray × Int)} {E : Sc} {X : List Int} (h : ILen K (l :: E, X)) : ILen K (E, X) := by
 refine ⟨?_, ?_, h.few, fun l' hl => h.full l' (List.mem_cons_of_mem _ hl)⟩
 ·have e : aN (l :: E) = l.length + aN E := by simp [aN]
  have : aN (l :: E) ≤ X.length := h.vars
  show aN E ≤ X.length; omega
 ·have : (l :: E).length ≤ X.length + 1 := h.deep
  show E.length ≤ X.length + 1; simp at this; omega
theorem lN (bs : List Nat) : (ox bs).length = bs.length := by simp [ox]
theorem fx {K : IK} {w0 : World} {O : Nat → Prop} {s : CS} {ret loops ai : Int} {w : World} (h : IS K w0 O s ret loops ai w) (hs : s.1 ≠ []) :
  Calls Tryz.prog 93 #[.pointer (some ⟨K.cb, 0, none⟩)] w fun e w' => e = .returned (.tuple #[]) ∧ IS K w0 O (s.1.tail, s.2) ret loops ai w' := by
 have k_N3_1 := kk
 exact bN3
def q6 (p : Int × Nat) : Value := .iface 44 (.agg #[.int .i64 p.1, .int .i64 (p.2 : Int)])
def kQ {α : Type} (K : IK) (w : World) (M : CR α) (eH : α → Ending → World → Prop) (e : Ending) (w' : World) : Prop :=
 match M with
 |.ok a => eH a e w'
 |.error p => e = .panicked [{ v := q6 p, recovered := false }] ∧ Below K.lo w w'
theorem lD {α : Type} {K : IK} {w : World} {M : CR α} {eH : α → Ending → World → Prop} {a : α} (h : M = .ok a) {e : Ending} {w' : World} : kQ K w M eH e w' = eH a e w' := by subst h; rfl
theorem fR {α : Type} {K : IK} {w : World} {M : CR α} {eH : α → Ending → World → Prop} {p : Int × Nat} (h : M = .error p) {e : Ending} {w' : World} : kQ K w M eH e w' = (e = .panicked [{ v := q6 p, recovered := false }] ∧ Below K.lo w w') := by subst h; rfl
theorem Du {l : List (ByteArray × Int)} (hf : ∀ p ∈ l, p.2 ≠ 0) (s : ByteArray) : (l.any (fun p => decide (p.1 = s)) = true) ↔ me l s ≠ 0 := by
 unfold me
 cases hx : l.find? (fun p => decide (p.1 = s)) with
 |none =>
  rw [List.find?_eq_none] at hx
  simp only [ne_eq, not_true_eq_false, iff_false, Bool.not_eq_true]
  rw [List.any_eq_false]
  exact hx
 |some p =>
  have h1 := List.find?_some hx
  have h2 := List.mem_of_find?_eq_some hx
  exact ⟨fun _ => hf p h2, fun _ => List.any_eq_true.2 ⟨p, h2, h1⟩⟩
theorem CD (w : World) : (zeroValue 3).run Tryz.prog w = .ok (.int .i64 0) w := by kernel_rfl
theorem ILen.push {K : IK} {l : List (ByteArray × Int)} {E : Sc} {X : List Int} (h : ILen K (l :: E, X)) (s : ByteArray) {t : Int} (ht : t ≠ 0) (hv : aN (l :: E) + 1 ≤ X.length) : ILen K (((s, t) :: l) :: E, X) := by
 refine ⟨?_, ?_, h.few, ?_⟩
 ·have e : aN (((s, t) :: l) :: E) = aN (l :: E) + 1 := by simp [aN]
  show aN (((s, t) :: l) :: E) ≤ X.length; omega
 ·exact h.deep
 ·intro l' hl p hp
  rcases List.mem_cons.1 hl with rfl | hl
  ·rcases List.mem_cons.1 hp with rfl | hp
   ·exact ht
   ·exact h.full l (by simp) p hp
  ·exact h.full l' (List.mem_cons_of_mem _ hl) p hp
theorem fB {K : IK} {w0 : World} {O : Nat → Prop} {s : CS} {ret loops ai : Int} {w : World} (h : IS K w0 O s ret loops ai w) (t : ByteArray) (ty : Int) (p : Nat) (hs : s.1 ≠ []) (iA : ty ≠ 0) (ht : t.size ≤ maxLen) (hv : aN s.1 + 1 ≤ s.2.length) :
  Calls Tryz.prog 91 #[.pointer (some ⟨K.cb, 0, none⟩), .string t, .int .i64 ty, .int .i64 p] w (kQ K w (ir s t ty p) fun s' e w' => e = .returned (.tuple #[]) ∧ IS K w0 O s' ret loops ai w') := by
 have k_N3_0 := kk
 exact bN3
structure IEnv (K : IK) (w : World) : Prop where
 fine : K.F.Fine
 row : Row 0 K.lo w K.F K.fv
 ok : dv K.F = true
 fun' : ∀ j, j < K.F.len → Row 0 K.lo w (K.F.kids j) (K.uf j)
structure INd (K : IK) (w : World) (T : Nd) (v : Value) : Prop where
 fine : T.Fine
 row : Row 0 K.lo w T v
 cost : T.cost ≤ 1048576
theorem IEnv.later {K : IK} {w w' : World} (h : IEnv K w) (hb : Below K.lo w w') : IEnv K w' := ⟨h.fine, ah hb lr h.row, h.ok, fun j hj => ah hb lr (h.fun' j hj)⟩
theorem INd.later {K : IK} {w w' : World} {T : Nd} {v : Value} (h : INd K w T v) (hb : Below K.lo w w') : INd K w' T v := ⟨h.fine, ah hb lr h.row, h.cost⟩
theorem INd.kid {K : IK} {w : World} {T : Nd} {v u : Value} (h : INd K w T v) {i : Nat} (hi : i < T.len) (hr : Row 0 K.lo w (T.kids i) u) : INd K w (T.kids i) u := ⟨Nd.fine_kid h.fine hi, hr, Nat.le_trans (T.cost_kid hi) h.cost⟩
theorem IS.box {K : IK} {w0 : World} {O : Nat → Prop} {s : CS} {ret loops ai : Int} {w : World} (h : IS K w0 O s ret loops ai w) (o : Obj) : Below K.lo w (w.alloc o) :=
 (Below.refl _ _).alloc (by have := h.lt; have := h.ok.cl; omega) _
def oo (T : Nd) : Prop := ∀ (K : IK) (w0 : World) (O : Nat → Prop) (s : CS) (ret loops ai : Int) (w : World) (v : Value), IS K w0 O s ret loops ai w → IEnv K w → INd K w T v → s.2.length + T.size ≤ K.N → T.eOk = true →
 Calls Tryz.prog 121 #[.pointer (some ⟨K.cb, 0, none⟩), T.val v] w (kQ K w (bP K.F T s) fun r e w' => e = .returned (.int .i64 r.1) ∧ IS K w0 O r.2 ret loops ai w')
def IVaS (T : Nd) : Prop := ∀ (K : IK) (w0 : World) (O : Nat → Prop) (s : CS) (ret loops ai : Int) (w : World) (v : Value), IS K w0 O s ret loops ai w → IEnv K w → INd K w T v → s.2.length + T.size ≤ K.N → T.eOk = true →
 Calls Tryz.prog 116 #[.pointer (some ⟨K.cb, 0, none⟩), T.val v] w (kQ K w (cN (bP K.F T) s) fun r e w' => e = .returned (.int .i64 r.1) ∧ IS K w0 O r.2 ret loops ai w')
def IWtS (T : Nd) : Prop := ∀ (K : IK) (w0 : World) (O : Nat → Prop) (s : CS) (ret loops ai : Int) (w : World) (v : Value) (ty : Int), IS K w0 O s ret loops ai w → IEnv K w → INd K w T v → s.2.length + T.size ≤ K.N → T.eOk = true →
 Calls Tryz.prog 117 #[.pointer (some ⟨K.cb, 0, none⟩), T.val v, .int .i64 ty] w (kQ K w (aE (bP K.F T) ty s) fun s' e w' => e = .returned (.tuple #[]) ∧ IS K w0 O s' ret loops ai w')
theorem IS.since {K : IK} {w0 : World} {O : Nat → Prop} {s : CS} {ret loops ai : Int} {w : World} (h : IS K w0 O s ret loops ai w) : ∃ O1 : Nat → Prop, IS K w O1 s ret loops ai w ∧ (∀ s' r' l' o' w', IS K w O1 s' r' l' o' w' → IS K w0 O s' r' l' o' w') ∧ ∀ s' r' l' o' w', IS K w O1 s' r' l' o' w' → Below K.lo w w' := by
 obtain ⟨O1, h1, h2, h3⟩ := h.restart
 exact ⟨O1, h1, h3, fun s' r' l' o' w' h' => h'.below (by have := h.lt; have := h.ok.cl; omega) fun k hk => (h2 k hk).1⟩
theorem jT {T : Nd} (hT : oo T) : IVaS T := by
 intro K w00 O0 s ret loops ai w v mr hE hN ay aS
 obtain ⟨O, hS, bb, gC⟩ := mr.since
 have HC := aa (fun o => hT K w O s ret loops ai (w.alloc o) v (hS.alloc o) (hE.later (hS.box o)) (hN.later (hS.box o)) ay aS)
 have kG := aa (fun o => pN (hS.alloc o))
 have HB := aa (fun o => hS.box o)
 have yx := aa gC
 have gK := aa bb
 unfold Nd.val at *
 unfold cN
 clear hS mr hE hN aS ay gC bb
 generalize s.2.length = q at *
 generalize T.kind = tk at *
 generalize T.num = tn at *
 generalize T.name = ts at *
 cases hM : bP K.F T s with
 |error p =>
  rw [hM] at HC
  rw [CR.bind_error]
  clear hM
  go_enter Tryz.func116, Tryz.ntmps116
  go_wp2_with (first
   |(go_at_call 131; refine (kG.out _).mono ?_; rintro e w1 ⟨rfl, rfl⟩)
   |(go_at_call 121; refine (HC.out _).mono ?_; rintro e w1 ⟨rfl, hb1⟩))
  exact ⟨rfl, rfl, (HB.out _).trans hb1⟩
 |ok r =>
  obtain ⟨r1, r2⟩ := r
  rw [hM] at HC
  rw [CR.bind_ok]
  dsimp only
  clear hM
  by_cases h0 : r1 = 0
  ·rw [if_pos h0]
   subst h0
   have k_N2_1 := kk
   exact bN2
  ·rw [if_neg h0]
   have qd : (r1 == 0) = false := bn h0
   clear h0
   have k_N2_0 := kk
   exact bN2
theorem ec {T : Nd} (hT : oo T) : IWtS T := by
 intro K w00 O0 s ret loops ai w v ty mr hE hN ay aS
 obtain ⟨O, hS, bb, gC⟩ := mr.since
 have HC := aa (fun o => jT hT K w O s ret loops ai (w.alloc o) v (hS.alloc o) (hE.later (hS.box o)) (hN.later (hS.box o)) ay aS)
 have kG := aa (fun o => pN (hS.alloc o))
 have HB := aa (fun o => hS.box o)
 have yx := aa gC
 have gK := aa bb
 unfold Nd.val at *
 unfold aE
 clear hS mr hE hN aS ay gC bb
 generalize s.2.length = q at *
 generalize T.kind = tk at *
 generalize T.num = tn at *
 generalize T.name = ts at *
 cases hM : cN (bP K.F T) s with
 |error p =>
  rw [hM] at HC
  rw [CR.bind_error]
  clear hM
  go_enter Tryz.func117, Tryz.ntmps117
  go_wp2_with (first
   |(go_at_call 131; refine (kG.out _).mono ?_; rintro e w1 ⟨rfl, rfl⟩)
   |(go_at_call 116; refine (HC.out _).mono ?_; rintro e w1 ⟨rfl, hb1⟩))
  exact ⟨rfl, rfl, (HB.out _).trans hb1⟩
 |ok r =>
  obtain ⟨r1, r2⟩ := r
  rw [hM] at HC
  rw [CR.bind_ok]
  dsimp only
  clear hM
  by_cases h0 : r1 = ty
  ·rw [if_pos h0]
   have qd : (r1 == ty) = true := beq_iff_eq.2 h0
   have Ui : (r1 != ty) = false := by simp only [bne, qd]; rfl
   have k_N1_0 := kk
   exact bN1
  ·rw [if_neg h0]
   have qd : (r1 == ty) = false := bn h0
   have Ui : (r1 != ty) = true := by simp only [bne, qd]; rfl
   have k_N1_1 := kk
   exact bN1
def rj (T : Nd) : Prop := ∀ (K : IK) (w0 : World) (O : Nat → Prop) (s : CS) (ret loops ai : Int) (w : World) (v : Value), IS K w0 O (ae s) ret loops ai w → IEnv K w → INd K w T v → s.2.length + T.size ≤ K.N → T.eOk = true →
 Calls Tryz.prog 133 #[.pointer (some ⟨K.cb, 0, none⟩), T.val v, .int .i64 s.2.length] w (kQ K w (bI K.F T.kind T.name T.len (fun i => bP K.F (T.kids i)) (ae s) s.2.length) fun r e w' => e = .returned (.int .i64 r.1) ∧ IS K w0 O r.2 ret loops ai w')
theorem IS.setT {K : IK} {w0 : World} {O : Nat → Prop} {s : CS} {ret loops ai : Int} {w : World} (h : IS K w0 O s ret loops ai w) {p : Nat} (hp : p < s.2.length) :
  ∃ g c, w.cell? ⟨K.cb, 2, none⟩ = some (.slice (some ⟨g, 0, none⟩) s.2.length c) ∧ (∃ u, w.cell? ⟨g, p, none⟩ = some u) ∧ w.frozen? ⟨g, p, none⟩ = false ∧ ∀ t, IS K w0 O (s.1, s.2.set p t) ret loops ai (w.setCell ⟨g, p, none⟩ (.int .i64 t)) := by
 obtain ⟨sv, tv, bs, h1, h2⟩ := h.is
 rcases h1.ty.2 with ⟨e1, e2⟩ | ⟨g, cap, cur, e1, P0, fU, cr, hmax, b8, hpre⟩
 ·omega
 subst e1
 refine ⟨g, cap, h1.cells.2.2.1, ?_, frozen_of_row w g p _ _ fU, fun t => ?_⟩
 ·have := h1.ty.cells (g := g) rfl p (.int .i64 (s.2[p]'hp)) (by simp [hp])
  rw [iD] at this
  exact ⟨_, this⟩
 ·have hg : w.grownBy (w.setCell ⟨g, p, none⟩ (.int .i64 t)) (some g) := ⟨by simp [World.setCell], by simp [World.setCell], by simp [World.setCell], by simp [World.setCell], fun k _ hk => Below.heap_setCell w ⟨g, p, none⟩ _ k (fun e => hk (by rw [e]))⟩
  have dJ : (w.setCell ⟨g, p, none⟩ (.int .i64 t)).ownsRow K.up 3 1 (.slice (some ⟨g, 0, none⟩) s.2.length cap) s.2.length ((s.2.set p t).map (Value.int .i64)) := by
   refine ⟨by simp, .inr ⟨g, cap, cur.set! p (.int .i64 t), rfl, P0, heap_setCell_same w g p _ _ _ fU, cr, hmax, by simp [b8], ?_⟩⟩
   rw [List.map_set, ← hpre]
   simp [List.take_set]
  have cY : Own sv (.slice (some ⟨g, 0, none⟩) s.2.length cap) bs g := .inr (.inl rfl)
  have jk : IRaw K (w.setCell ⟨g, p, none⟩ (.int .i64 t)) sv (.slice (some ⟨g, 0, none⟩) s.2.length cap) bs (s.1, s.2.set p t) ret loops ai := by
   obtain ⟨f0, f2, f3, hb⟩ := h1.blk
   refine ⟨⟨f0, f2, f3, (hg.block _ h1.lt (fun e => ?_)).trans hb⟩, dM h1.sc fun k hk => hg.block k (h1.sc.lt k hk).2 (h1.apart hk), ?_, h1.maps.same fun b Gg => hg.block b (h1.maps.mem b Gg).2.1 (gZ h1.ty (h1.maps.mem b Gg).2.2)⟩
   ·injection e with e; have := h.ok.cu; omega
   ·show (w.setCell ⟨g, p, none⟩ (.int .i64 t)).ownsRow K.up 3 1 _ (s.2.set p t).length _
    rw [List.length_set]; exact dJ
  refine h.step h1 h2 jk (fun k hk => .inl hk) ⟨?_, ?_, ?_, h.len.full⟩ (Kept.grown hg fun k hk => by injection hk with hk; subst hk; exact .inr cY)
  ·rw [List.length_set]; exact h.len.vars
  ·rw [List.length_set]; exact h.len.deep
  ·rw [List.length_set]; exact h.len.few
theorem uP {T : Nd} (hT : rj T) : oo T := by
 intro K w00 O0 s ret loops ai w v mr hE hN ay aS
 obtain ⟨O, hS, bb, gC⟩ := mr.since
 have b8 : 0 < T.size := by rw [T.size_eq]; omega
 obtain ⟨O1, aD, bg, bS, aZ⟩ := hS.boxed (.cells #[.int .i64 T.kind, .int .i64 T.num, .string T.name, v] 25)
 have iI := aa (ic aD (by omega))
 have HC := aa (fun (W : World) (hW : IS K (w.alloc (.cells #[.int .i64 T.kind, .int .i64 T.num, .string T.name, v] 25)) O1 (ae s) ret loops ai W) => hT K _ O1 s ret loops ai W v hW (hE.later (aZ _ _ _ _ _ hW)) (hN.later (aZ _ _ _ _ _ hW)) ay aS)
 have cP := aa bS
 have bF := aa aZ
 have eB := aa bg
 have yx := aa gC
 have gK := aa bb
 have dK := hS.ok.few
 have HLN : Hid (∀ r, bI K.F T.kind T.name T.len (fun i => bP K.F (T.kids i)) (ae s) s.2.length = .ok r → s.2.length < r.2.2.length ∧ r.2.2.length ≤ 1048576) := by
  intro r hr
  have h1 : bP K.F T s = .ok (r.1, (r.2.1, r.2.2.set s.2.length r.1)) := by rw [qk K.F aS]; unfold NZ; rw [hr]; rfl
  have h2 := (ej K.F T aS _ _ _ h1).2
  rw [List.length_set] at h2
  omega
 rw [qk K.F aS]
 unfold NZ Nd.val at *
 clear hS mr hE hN aS ay gC bb aD bg bS aZ b8
 generalize bI K.F T.kind T.name T.len (fun i => bP K.F (T.kids i)) (ae s) s.2.length = M at *
 have HQ : Hid (∃ q, q = s.2.length) := ⟨_, rfl⟩
 cases hM : M with
 |error p =>
  subst hM
  rw [CR.bind_error]
  go_enter Tryz.func121, Tryz.ntmps121
  go_wp2_with (first
   |(go_at_call 69; refine iI.out.mono ?_; rintro e w1 ⟨rfl, aD⟩; have fP := cP.out _ _ _ _ _ aD; have b0 : w1.cell? ⟨w.heap.size, 0, none⟩ = some (.int .i64 T.kind) := (by simp [World.cell?, fP]); have b1 : w1.cell? ⟨w.heap.size, 1, none⟩ = some (.int .i64 T.num) := (by simp [World.cell?, fP]); have b2 : w1.cell? ⟨w.heap.size, 2, none⟩ = some (.string T.name) := (by simp [World.cell?, fP]); have b3 : w1.cell? ⟨w.heap.size, 3, none⟩ = some v := (by simp [World.cell?, fP]); have bh := aa aD; clear aD fP)
   |(go_at_call 133; refine (HC.out _ bh.out).mono ?_; rintro e w2 ⟨rfl, ba⟩))
  exact ⟨rfl, rfl, (bF.out _ _ _ _ _ bh.out).trans ba⟩
 |ok r =>
  subst hM
  rw [CR.bind_ok]
  obtain ⟨r1, r2⟩ := r
  dsimp only at *
  obtain ⟨wb, Te⟩ := HLN.out _ rfl
  dsimp only at wb Te
  have Tf : ((s.2.length : Nat) : Int) < ((r2.2.length : Nat) : Int) := by omega
  go_enter Tryz.func121, Tryz.ntmps121
  go_wp2_with (first
   |(go_at_call 69; refine iI.out.mono ?_; rintro e w1 ⟨rfl, aD⟩; have fP := cP.out _ _ _ _ _ aD; have b0 : w1.cell? ⟨w.heap.size, 0, none⟩ = some (.int .i64 T.kind) := (by simp [World.cell?, fP]); have b1 : w1.cell? ⟨w.heap.size, 1, none⟩ = some (.int .i64 T.num) := (by simp [World.cell?, fP]); have b2 : w1.cell? ⟨w.heap.size, 2, none⟩ = some (.string T.name) := (by simp [World.cell?, fP]); have b3 : w1.cell? ⟨w.heap.size, 3, none⟩ = some v := (by simp [World.cell?, fP]); have bh := aa aD; clear aD fP)
   |(go_at_call 133; refine (HC.out _ bh.out).mono ?_; rintro e w2 ⟨rfl, aC⟩; obtain ⟨g, c, t1, ⟨tu, t2⟩, t3, xA⟩ := (show IS _ _ _ r2 _ _ _ _ from aC).setT wb; have mX := aa (xA r1); clear aC xA))
  go_ret
  exact ⟨rfl, gK.out _ _ _ _ _ (eB.out _ _ _ _ _ mX.out)⟩
end Go.Proofs.YteaocammohcgoaaGreatDoor
