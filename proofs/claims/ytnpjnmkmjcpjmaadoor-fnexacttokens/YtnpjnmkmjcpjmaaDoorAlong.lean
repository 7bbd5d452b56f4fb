/- The iterator over tokens. -/
import Derived.Test.YtnpjnmkmjcpjmaaDoorRfLaw
import Derived.Test.YtnpjnmkmjcpjmaaDoorTokAt
import Derived.Test.YtnpjnmkmjcpjmaaDoorTkFlat
import Derived.Test.YtnpjnmkmjcpjmaaDoorLex2
import Derived.Shelf.Abstract
import Derived.Shelf.RegionOpen
import Derived.WalkKit
import Derived.OwnWalkIn
import Derived.TacticsInMore
import Derived.LoopNIn
import Derived.LoopIn
import Derived.WalkSpells
import Derived.WalkSmall
import Derived.WalkMore
set_option linter.unusedVariables false
namespace Go.Proofs.YtnpjnmkmjcpjmaaDoor
open Go.RowKit Go.Shelf
attribute [local go_sem] Oper.semAt_some

/-- What is yielded: a token and a code. -/
abbrev Yld := Tok × Int
def yenc (x : Yld) : Array Value := #[.agg #[.int .i64 x.1.kind, .string x.1.text, .int .i64 x.1.place], .int .i64 x.2]
def oks (acc : List Tok) : List Yld := acc.map fun t => (t, 0)
def YCame (s : List UInt8) (pre : List Yld) (x : Yld) : Prop :=
  ∃ p acc, Reach s p acc ∧ pre = oks acc ∧ p ≤ s.length ∧ ((∃ k t d, lexStep (s.drop p) (endsL acc) = .tok k t d ∧ x = (⟨k, t, p⟩, 0)) ∨ (lexStep (s.drop p) (endsL acc) = .bad ∧ x = (⟨0, ⟨#[]⟩, p⟩, 4)))
def YAll (s : List UInt8) (xs : List Yld) : Prop := (∃ p acc, Reach s p acc ∧ xs = oks acc ∧ s.length < p) ∨ ∃ x ∈ xs, x.2 ≠ 0
def lastOf (acc : List Tok) : Tok := acc.getLast?.getD ⟨0, ⟨#[]⟩, 0⟩
def lastObj (acc : List Tok) : Obj := .cells #[.int .i64 (lastOf acc).kind, .string (lastOf acc).text, .int .i64 (lastOf acc).place] 37
/-- What the iterator reads of memory. -/
structure YFix (s : ByteArray) (bt B : Nat) (acc : List Tok) (wr : World) : Prop where
  text : wr.cell? ⟨bt, 0, none⟩ = some (.string s)
  words : StrRow wr 1 kwWords
  signs : StrRow wr 2 sgWords
  last : wr.heap[B + 2]? = some (lastObj acc)
def ykeep (base bt B k : Nat) : Prop := k < base ∨ k = bt ∨ k = B + 2

theorem wpIn_scope_wide {n : Nat} {P : Program} {c : Code} {Q : Exit → Act → World → Prop} {a : Act} {w : World} (h : c.wpIn Fence.wide n P (Exit.noGoto Q) a w) : (Code.scope c).wpIn Fence.wide n P Q a w :=
  wpIn_wide.2 (wp_scope_straight (wpIn_wide.1 h))

theorem tok_size (l : List UInt8) {k : Int} {t : ByteArray} {d : Nat} (h : tokStep l = .tok k t d) : d = t.size := by
  unfold tokStep at h
  split at h
  · cases h; rfl
  split at h
  · split at h
    · cases h
    · cases h; exact (bs_take_size l).symm
  split at h
  · split at h
    · cases h; exact (bs_take_size l).symm
    · cases h
  split at h
  · cases h
  · cases h; rfl
theorem tok_noskip (l : List UInt8) (d : Nat) : tokStep l ≠ .skip d := by
  intro h
  unfold tokStep at h
  repeat' (split at h)
  all_goals cases h
theorem step_cases (l : List UInt8) : (∃ d, tokStep l = .tok (stepKind l) (stepText l) d ∧ stepCode l = 0 ∧ d = (stepText l).size) ∨ (tokStep l = .bad ∧ stepKind l = 0 ∧ stepText l = ⟨#[]⟩ ∧ stepCode l = 4) := by
  cases h : tokStep l with
  | skip d => exact absurd h (tok_noskip l d)
  | tok k t d =>
    refine .inl ⟨d, ?_, ?_, ?_⟩
    · unfold stepKind stepText; rw [h]
    · unfold stepCode; rw [h]
    · unfold stepText; rw [h]; exact tok_size l h
  | bad =>
    refine .inr ⟨rfl, ?_, ?_, ?_⟩
    · unfold stepKind; rw [h]
    · unfold stepText; rw [h]
    · unfold stepCode; rw [h]
theorem impl_tokAt2 (s : ByteArray) (k : Nat) (w : World) (hs : s.size ≤ 65536) (hk : k < s.size) (hr : StrRow w 1 kwWords) (hg : StrRow w 2 sgWords) (hz : 1 < w.heap.size) (hz2 : 2 < w.heap.size) :
    Calls Tryd.prog 39 #[.string s, .int .i64 k] w fun e w' => e = .returned (.tuple #[.agg #[.int .i64 (stepKind (s.data.toList.drop k)), .string (stepText (s.data.toList.drop k)), .int .i64 k], .int .i64 (stepCode (s.data.toList.drop k))]) ∧ Below w.heap.size w w' :=
  impl_tokAt s k w hs hk hr hg hz hz2
theorem prefix_two (s : ByteArray) (p : Nat) (hp : p < s.size) (c : Int) (hc : (s[p].toNat : Int) = c) :
    Lib.hasPrefix (s.extract p s.size).data.toList (⟨#[47, 47]⟩ : ByteArray).data.toList = decide (c = 47 ∧ ∃ h : p + 1 < s.size, (s[p + 1].toNat : Int) = 47) := by
  rw [Lib.extract_to_end, rest_cons s p hp]
  have hh := head_next s p
  unfold Lib.hasPrefix
  rw [Bool.eq_iff_iff, decide_eq_true_eq, ← hh]
  have h47 : (47 : UInt8) = s[p] ↔ c = 47 := by
    constructor
    · intro e; rw [← hc, ← e]; rfl
    · intro e
      have : (47 : UInt8).toNat = s[p].toNat := by show 47 = s[p].toNat; omega
      exact UInt8.toNat_inj.1 this
  generalize s.data.toList.drop (p + 1) = r
  cases r with
  | nil => simp [List.isPrefixOf]
  | cons b r =>
    simp only [List.isPrefixOf, Bool.and_true, Bool.and_eq_true, beq_iff_eq, List.head?_cons, Option.some.injEq]
    rw [h47]
    exact ⟨fun ⟨x, y⟩ => ⟨x, y.symm⟩, fun ⟨x, y⟩ => ⟨x, y.symm⟩⟩

theorem ends_last (acc : List Tok) : endsL acc = endB (lastOf acc).kind (lastOf acc).text := by
  unfold endsL lastOf
  cases acc.getLast? with
  | none => rfl
  | some t => rfl
theorem last_snoc (acc : List Tok) (t : Tok) : lastOf (acc ++ [t]) = t := by simp [lastOf]
theorem oks_snoc (acc : List Tok) (t : Tok) : oks (acc ++ [t]) = oks acc ++ [(t, 0)] := by simp [oks]
theorem fix_below {s : ByteArray} {bt B : Nat} {acc : List Tok} {A C : World} (h : YFix s bt B acc A) (hb : Below A.heap.size A C) (h1 : bt < A.heap.size) (h2 : B + 2 < A.heap.size) (h3 : 2 < B) : YFix s bt B acc C :=
  ⟨(hb.cell (p := ⟨bt, 0, none⟩) h1).trans h.text, row_belowK h.words hb (by omega), row_belowK h.signs hb (by omega), (hb.block _ h2).trans h.last⟩
theorem cells3 {W : World} {b : Nat} {x y z : Value} {t : TypeId} (h : W.heap[b]? = some (.cells #[x, y, z] t)) :
    W.cell? ⟨b, 0, none⟩ = some x ∧ W.cell? ⟨b, 1, none⟩ = some y ∧ W.cell? ⟨b, 2, none⟩ = some z ∧ W.frozen? ⟨b, 0, none⟩ = false ∧ W.frozen? ⟨b, 1, none⟩ = false ∧ W.frozen? ⟨b, 2, none⟩ = false := by
  refine ⟨?_, ?_, ?_, ?_, ?_, ?_⟩ <;> simp [World.cell?, World.frozen?, h]
theorem set3 {W : World} {b : Nat} {x y z x' y' z' : Value} {t : TypeId} (h : W.heap[b]? = some (.cells #[x, y, z] t)) :
    W.grownBy (((W.setCell ⟨b, 0, none⟩ x').setCell ⟨b, 1, none⟩ y').setCell ⟨b, 2, none⟩ z') (some b) ∧ (((W.setCell ⟨b, 0, none⟩ x').setCell ⟨b, 1, none⟩ y').setCell ⟨b, 2, none⟩ z').heap[b]? = some (.cells #[x', y', z'] t) ∧ (((W.setCell ⟨b, 0, none⟩ x').setCell ⟨b, 1, none⟩ y').setCell ⟨b, 2, none⟩ z').heap.size = W.heap.size := by
  refine ⟨⟨rfl, rfl, rfl, by simp [World.setCell], fun k hk hne => ?_⟩, ?_, by simp [World.setCell]⟩
  · have hne' : k ≠ b := fun e => hne (by rw [e])
    rw [Below.heap_setCell _ _ _ _ hne', Below.heap_setCell _ _ _ _ hne', Below.heap_setCell _ _ _ _ hne']
  · simp [World.setCell, Array.getElem?_modify, h]
/-- Behind a round that goes on: the iterator lays what was yielded as the last token. -/
theorem after_round {s : ByteArray} {base bt B : Nat} {J : List Yld → World → Prop} {acc : List Tok} {t : Tok} {W0 W1 W' : World} (hbase : 2 < base) (hbb : base ≤ B) (hbt : bt < B) (hJ : ∀ pre A C row, J pre A → A.grownBy C row → (∀ r, row = some r → r = B + 2) → J pre C)
    (hfix : YFix s bt B acc W0) (hz : B + 2 < W0.heap.size) (hb : Below W0.heap.size W0 W1) (hJ' : J (oks acc ++ [(t, 0)]) W') (hk : KeptR (ykeep base bt B) W0 W1 W') :
    J (oks (acc ++ [t])) (((W'.setCell ⟨B + 2, 0, none⟩ (.int .i64 t.kind)).setCell ⟨B + 2, 1, none⟩ (.string t.text)).setCell ⟨B + 2, 2, none⟩ (.int .i64 t.place)) ∧ B + 2 < (((W'.setCell ⟨B + 2, 0, none⟩ (.int .i64 t.kind)).setCell ⟨B + 2, 1, none⟩ (.string t.text)).setCell ⟨B + 2, 2, none⟩ (.int .i64 t.place)).heap.size ∧
      YFix s bt B (acc ++ [t]) (((W'.setCell ⟨B + 2, 0, none⟩ (.int .i64 t.kind)).setCell ⟨B + 2, 1, none⟩ (.string t.text)).setCell ⟨B + 2, 2, none⟩ (.int .i64 t.place)) := by
  have hL : W'.heap[B + 2]? = some (lastObj acc) := (hk.same _ (.inl (.inr (.inr rfl)))).trans ((hb.block _ hz).trans hfix.last)
  obtain ⟨hg, hl, hsz⟩ := set3 (x' := .int .i64 t.kind) (y' := .string t.text) (z' := .int .i64 t.place) hL
  have hks := hk.size
  have hbs := hb.size
  have old : ∀ k, (k < base ∨ k = bt) → k < W0.heap.size → k ≠ B + 2 → (((W'.setCell ⟨B + 2, 0, none⟩ (.int .i64 t.kind)).setCell ⟨B + 2, 1, none⟩ (.string t.text)).setCell ⟨B + 2, 2, none⟩ (.int .i64 t.place)).heap[k]? = W0.heap[k]? := fun k hk' hlt hne => by
    rw [hg.block k (by omega) (fun e => hne (Option.some.inj e))]
    exact (hk.same k (.inl (hk'.elim .inl fun e => .inr (.inl e)))).trans (hb.block k hlt)
  refine ⟨?_, by omega, ⟨?_, fun i hi => ?_, fun i hi => ?_, ?_⟩⟩
  · rw [oks_snoc]; exact hJ _ _ _ _ hJ' hg (fun r e => (Option.some.inj e).symm)
  · exact (World.cell?_of_block (old bt (.inr rfl) (by omega) (by omega))).trans hfix.text
  · exact (World.cell?_of_block (a := ⟨1, i, none⟩) (old 1 (.inl (by omega)) (by omega) (by omega))).trans (hfix.words i hi)
  · exact (World.cell?_of_block (a := ⟨2, i, none⟩) (old 2 (.inl (by omega)) (by omega) (by omega))).trans (hfix.signs i hi)
  · unfold lastObj; rw [last_snoc]; exact hl

set_option maxHeartbeats 4000000 in
set_option maxRecDepth 100000 in
theorem along_in (n : Nat) (hn : 1 ≤ n) (s : ByteArray) (hs : s.size ≤ 65536) (base bt B l : Nat) (hbase : 2 < base) (hbb : base ≤ B) (hbt : bt < B) (J Jx : List Yld → World → Prop) (W : World) (hWs : W.heap.size = B + 2)
    (hJ : ∀ pre A C row, J pre A → A.grownBy C row → (∀ r, row = some r → r = B + 2) → J pre C)
    (hY : ∀ pre x W0 W1, J pre W0 → B + 2 < W0.heap.size → Below W0.heap.size W0 W1 → YCame s.data.toList pre x → YieldAt Fence.wide (n - 1) Tryd.prog l (yenc x) W1 fun e W' =>
      (e = .returned (.bool true) ∧ J (pre ++ [x]) W' ∧ KeptR (ykeep base bt B) W0 W1 W') ∨ (e = .returned (.bool false) ∧ Jx (pre ++ [x]) W'))
    (h0 : J [] W) (ht : W.cell? ⟨bt, 0, none⟩ = some (.string s)) (hw : StrRow W 1 kwWords) (hg : StrRow W 2 sgWords) :
    CallsIn Fence.wide n Tryd.prog 34 #[.func (.yield l) #[] #[], .pointer (some ⟨bt, 0, none⟩)] W fun e W' => (∃ v, e = .returned v) ∧ ((∃ xs, YAll s.data.toList xs ∧ J xs W') ∨ (∃ pre, True ∧ Jx pre W')) := by
  refine callsIn_of_wp Tryd.func34 rfl trivial ?_ rfl
  simp only [Tryd.ntmps34, List.size_toArray, List.length_cons, List.length_nil, Nat.reduceAdd, Nat.reduceSub, Array.replicate_succ, Array.replicate_zero, List.push_toArray, List.append_toArray, List.nil_append, List.cons_append]
  refine wpIn_scope_wide ?_
  gi_wp2
  refine wpIn_label ?_
  gi_wp2
  gi_loopw [4] (fun i wr => ∃ (p : Nat) (acc : List Tok), Reach s.data.toList p acc ∧ p ≤ s.size + 1 ∧ i = .int .i64 p ∧ J (oks acc) wr ∧ B + 2 < wr.heap.size ∧ YFix s bt B acc wr) (fun i _ => s.size + 2 - (intOf i).toNat)
  case atStart =>
    have hb0 : Below W.heap.size W (W.alloc (.cells #[.int .i64 0, .string ⟨#[]⟩, .int .i64 0] 37)) := (Below.refl _ _).alloc (Nat.le_refl _) _
    refine ⟨0, [], .start, by omega, rfl, hJ _ _ _ none h0 (grownBy_of_below hb0) (fun r e => by cases e), by simp; omega, ⟨(hb0.cell (p := ⟨bt, 0, none⟩) (by show bt < _; omega)).trans ht, row_belowK hw hb0 (by omega), row_belowK hg hb0 (by omega), ?_⟩⟩
    have := World.alloc_heap_new W (.cells #[.int .i64 0, .string ⟨#[]⟩, .int .i64 0] 37)
    rw [hWs] at this
    exact this
  case round =>
    obtain ⟨p, acc, hreach, hp, rfl, hJr, hz, hfix⟩ := hrel
    clear h0 ht hw hg hWs
    have htx := hfix.text
    have hL : s.data.toList.length = s.size := rfl
    by_cases hps : s.size < p
    · have HS : Hid (YAll s.data.toList (oks acc)) := .inl ⟨p, acc, hreach, rfl, hps⟩
      gi_wp2
      rw [Exit.noGoto_normal]
      go_end0
      exact ⟨⟨_, rfl⟩, .inl ⟨_, HS.out, hJr⟩⟩
    have hpl : p ≤ s.size := by omega
    have hbz : bt < wr.heap.size := by omega
    have hbN : Below wr.heap.size wr (wr.alloc (.cells #[.int .i64 5, .string ⟨#[]⟩, .int .i64 p] 37)) := (Below.refl _ _).alloc (Nat.le_refl _) _
    have hJN : J (oks acc) (wr.alloc (.cells #[.int .i64 5, .string ⟨#[]⟩, .int .i64 p] 37)) := hJ _ _ _ none hJr (grownBy_of_below hbN) (fun r e => by cases e)
    have hfixN := fix_below hfix hbN hbz hz (by omega)
    have hzN : B + 2 < (wr.alloc (.cells #[.int .i64 5, .string ⟨#[]⟩, .int .i64 p] 37)).heap.size := by simp; omega
    have HJN := (show Hid (J (oks acc) _) from hJN)
    have HFX := (show Hid (YFix s bt B acc _) from hfixN)
    have HFX0 := (show Hid (YFix s bt B acc wr) from hfix)
    have HRe : Hid (Reach s.data.toList p acc) := hreach
    have HJr : Hid (J (oks acc) wr) := hJr
    have HbN := (show Hid (Below wr.heap.size wr _) from hbN)
    have hlo : Hid (wr.heap[B + 2]? = some (lastObj acc)) := hfix.last
    clear hfix hfixN hJN hJr hbN hreach
    have hcase : ((p : Int) == (s.size : Int)) = true ∨ (((p : Int) == (s.size : Int)) = false ∧ ∃ hp : p < s.size, (s[p].toNat : Int) = 10) ∨ (((p : Int) == (s.size : Int)) = false ∧ ∃ hp : p < s.size, (s[p].toNat : Int) ≠ 10) := by
      by_cases h : p < s.size
      · by_cases h2 : (s[p].toNat : Int) = 10
        · exact .inr (.inl ⟨beq_eq_false_iff_ne.2 (by omega), h, h2⟩)
        · exact .inr (.inr ⟨beq_eq_false_iff_ne.2 (by omega), h, h2⟩)
      · exact .inl (beq_iff_eq.2 (by omega))
    have hendc : Hid (((p : Int) == (s.size : Int)) = true ∨ (((p : Int) == (s.size : Int)) = false ∧ ∃ hp : p < s.size, (s[p].toNat : Int) = 10) → lexStep (s.data.toList.drop p) (endsL acc) = if endsL acc then .tok 5 ⟨#[]⟩ 1 else .skip 1) := fun h => step_end s p _ (by
      rcases h with h | ⟨_, h⟩
      · exact .inl (by have := beq_iff_eq.1 h; omega)
      · exact .inr h)
    rcases hcase with hq | ⟨hq, hpp, hc⟩ | ⟨hq, hpp, hc10⟩
    · have hst := hendc.out (.inl hq)
      obtain ⟨k0, k1, k2, g0, g1, g2⟩ := cells3 hlo.out
      cases he : endsL acc
      · rw [he, if_neg (by decide)] at hst
        have HR : Hid (Reach s.data.toList (p + 1) acc) := .skip HRe.out (by omega) (by rw [he]; exact hst)
        have HE : Hid (endB (lastOf acc).kind (lastOf acc).text = false) := by unfold Hid; rw [← ends_last]; exact he
        clear he hst hendc
        generalize (lastOf acc).kind = lk at *
        generalize (lastOf acc).text = lt at *
        generalize ((lastOf acc).place : Int) = lp at *
        gi_wp2_with ((refine ⟨trivial, ?_⟩; gi_at_call 35; refine (callsIn_wide.2 (impl_ends _ _ _ _)).mono ?_; rw [HE.out]; rintro e w1 ⟨rfl, hb1⟩; obtain ⟨hc1, hf1⟩ := bcellK hb1; have hz1 := hb1.size; simp only [World.size_alloc] at hz1))
        go_roundw
        case rel => exact ⟨p + 1, acc, HR.out, by omega, by go_num, hJ _ _ _ none HJN.out (grownBy_of_below hb1) (fun r e => by cases e), by omega, fix_below HFX.out hb1 (by simp; omega) hzN (by omega)⟩
        case measure => simp [intOf]; omega
      · rw [he, if_pos rfl] at hst
        have HR : Hid (Reach s.data.toList (p + 1) (acc ++ [⟨5, ⟨#[]⟩, p⟩])) := .tok HRe.out (by omega) (by rw [he]; exact hst)
        have HC : Hid (YCame s.data.toList (oks acc) (⟨5, ⟨#[]⟩, p⟩, 0)) := ⟨p, acc, HRe.out, rfl, by omega, .inl ⟨5, ⟨#[]⟩, 1, by rw [he]; exact hst, rfl⟩⟩
        have HE : Hid (endB (lastOf acc).kind (lastOf acc).text = true) := by unfold Hid; rw [← ends_last]; exact he
        clear he hst hendc
        generalize (lastOf acc).kind = lk at *
        generalize (lastOf acc).text = lt at *
        generalize ((lastOf acc).place : Int) = lp at *
        gi_wp2_with ((refine ⟨trivial, ?_⟩; gi_at_call 35; refine (callsIn_wide.2 (impl_ends _ _ _ _)).mono ?_; rw [HE.out]; rintro e w1 ⟨rfl, hb1⟩; obtain ⟨hc1, hf1⟩ := bcellK hb1; have hz1 := hb1.size; simp only [World.size_alloc] at hz1; have hbw1 : Below wr.heap.size wr w1 := HbN.out.trans (hb1.mono (by simp)); obtain ⟨fn, tmps, assign, bod, hy, hR⟩ := hY _ _ wr w1 HJr.out hz hbw1 HC.out; simp only [yenc] at hy))
        refine hR.mono ?_
        rintro e W' (⟨rfl, hJ', hk⟩ | ⟨rfl, hJx'⟩)
        · have hN' := (hk.same wr.heap.size (.inr ⟨Nat.le_refl _, by omega⟩)).trans ((hb1.block wr.heap.size (by simp)).trans (World.alloc_heap_new wr _))
          have hL' := (hk.same (B + 2) (.inl (.inr (.inr rfl)))).trans ((hbw1.block (B + 2) hz).trans hlo.out)
          have HA := (show Hid (J _ _ ∧ _) from after_round hbase hbb hbt hJ HFX0.out hz hbw1 hJ' hk)
          obtain ⟨n0, n1, n2, m0, m1, m2⟩ := cells3 hN'
          obtain ⟨l0, l1, l2, f0, f1, f2⟩ := cells3 hL'
          clear hN' hL' hk hJ' hR hy k0 k1 k2 g0 g1 g2
          gi_wp2
          go_roundw
          case rel => exact ⟨p + 1, _, HR.out, by omega, by go_num, HA.out.1, HA.out.2.1, HA.out.2.2⟩
          case measure => simp [intOf]; omega
        · clear hR hy k0 k1 k2 g0 g1 g2
          gi_wp2
          rw [Exit.noGoto_normal]
          go_end0
          exact ⟨⟨_, rfl⟩, .inr ⟨_, trivial, hJx'⟩⟩
    · have hst := hendc.out (.inr ⟨hq, hpp, hc⟩)
      obtain ⟨k0, k1, k2, g0, g1, g2⟩ := cells3 hlo.out
      cases he : endsL acc
      · rw [he, if_neg (by decide)] at hst
        have HR : Hid (Reach s.data.toList (p + 1) acc) := .skip HRe.out (by omega) (by rw [he]; exact hst)
        have HE : Hid (endB (lastOf acc).kind (lastOf acc).text = false) := by unfold Hid; rw [← ends_last]; exact he
        clear he hst hendc
        generalize (lastOf acc).kind = lk at *
        generalize (lastOf acc).text = lt at *
        generalize ((lastOf acc).place : Int) = lp at *
        gi_wp2_with ((refine ⟨trivial, ?_⟩; gi_at_call 35; refine (callsIn_wide.2 (impl_ends _ _ _ _)).mono ?_; rw [HE.out]; rintro e w1 ⟨rfl, hb1⟩; obtain ⟨hc1, hf1⟩ := bcellK hb1; have hz1 := hb1.size; simp only [World.size_alloc] at hz1))
        go_roundw
        case rel => exact ⟨p + 1, acc, HR.out, by omega, by go_num, hJ _ _ _ none HJN.out (grownBy_of_below hb1) (fun r e => by cases e), by omega, fix_below HFX.out hb1 (by simp; omega) hzN (by omega)⟩
        case measure => simp [intOf]; omega
      · rw [he, if_pos rfl] at hst
        have HR : Hid (Reach s.data.toList (p + 1) (acc ++ [⟨5, ⟨#[]⟩, p⟩])) := .tok HRe.out (by omega) (by rw [he]; exact hst)
        have HC : Hid (YCame s.data.toList (oks acc) (⟨5, ⟨#[]⟩, p⟩, 0)) := ⟨p, acc, HRe.out, rfl, by omega, .inl ⟨5, ⟨#[]⟩, 1, by rw [he]; exact hst, rfl⟩⟩
        have HE : Hid (endB (lastOf acc).kind (lastOf acc).text = true) := by unfold Hid; rw [← ends_last]; exact he
        clear he hst hendc
        generalize (lastOf acc).kind = lk at *
        generalize (lastOf acc).text = lt at *
        generalize ((lastOf acc).place : Int) = lp at *
        gi_wp2_with ((refine ⟨trivial, ?_⟩; gi_at_call 35; refine (callsIn_wide.2 (impl_ends _ _ _ _)).mono ?_; rw [HE.out]; rintro e w1 ⟨rfl, hb1⟩; obtain ⟨hc1, hf1⟩ := bcellK hb1; have hz1 := hb1.size; simp only [World.size_alloc] at hz1; have hbw1 : Below wr.heap.size wr w1 := HbN.out.trans (hb1.mono (by simp)); obtain ⟨fn, tmps, assign, bod, hy, hR⟩ := hY _ _ wr w1 HJr.out hz hbw1 HC.out; simp only [yenc] at hy))
        refine hR.mono ?_
        rintro e W' (⟨rfl, hJ', hk⟩ | ⟨rfl, hJx'⟩)
        · have hN' := (hk.same wr.heap.size (.inr ⟨Nat.le_refl _, by omega⟩)).trans ((hb1.block wr.heap.size (by simp)).trans (World.alloc_heap_new wr _))
          have hL' := (hk.same (B + 2) (.inl (.inr (.inr rfl)))).trans ((hbw1.block (B + 2) hz).trans hlo.out)
          have HA := (show Hid (J _ _ ∧ _) from after_round hbase hbb hbt hJ HFX0.out hz hbw1 hJ' hk)
          obtain ⟨n0, n1, n2, m0, m1, m2⟩ := cells3 hN'
          obtain ⟨l0, l1, l2, f0, f1, f2⟩ := cells3 hL'
          clear hN' hL' hk hJ' hR hy k0 k1 k2 g0 g1 g2
          gi_wp2
          go_roundw
          case rel => exact ⟨p + 1, _, HR.out, by omega, by go_num, HA.out.1, HA.out.2.1, HA.out.2.2⟩
          case measure => simp [intOf]; omega
        · clear hR hy k0 k1 k2 g0 g1 g2
          gi_wp2
          rw [Exit.noGoto_normal]
          go_end0
          exact ⟨⟨_, rfl⟩, .inr ⟨_, trivial, hJx'⟩⟩
    · clear hendc hlo
      obtain ⟨c, hc⟩ : ∃ c : Int, (s[p].toNat : Int) = c := ⟨_, rfl⟩
      have h10 : c ≠ 10 := by rw [← hc]; exact hc10
      have e10 : (c == 10) = false := beq_eq_false_iff_ne.2 h10
      clear hc10
      cases hbl : blankB c
      · have HBl : Hid (blankB c = false) := hbl
        have hpf : Lib.hasPrefix (s.extract p s.size).data.toList (⟨#[47, 47]⟩ : ByteArray).data.toList = decide (c = 47 ∧ ∃ h : p + 1 < s.size, (s[p + 1].toNat : Int) = 47) := prefix_two s p hpp c hc
        by_cases hcm : c = 47 ∧ ∃ h : p + 1 < s.size, (s[p + 1].toNat : Int) = 47
        · have HPf : Hid (Lib.hasPrefix (s.extract p s.size).data.toList (⟨#[47, 47]⟩ : ByteArray).data.toList = true) := by unfold Hid; rw [hpf]; exact decide_eq_true hcm
          have HR : Hid (Reach s.data.toList (p + lineLen (s.data.toList.drop p)) acc) := .skip HRe.out (by omega) (step_comment s p _ hpp c hc hbl hcm.1 hcm.2)
          have hpos := line_pos s p hpp c hc hcm.1
          have hle := line_le (s.data.toList.drop p)
          rw [drop_len] at hle
          clear hpf hcm hbl h10
          gi_wp2_with (first | (refine ⟨trivial, ?_⟩; gi_at_call 36; refine (callsIn_wide.2 (impl_blank _ _)).mono ?_; rw [HBl.out]; rintro e w' ⟨rfl, rfl⟩) | (refine ⟨trivial, ?_⟩; gi_at_call 37; refine (callsIn_wide.2 (Tryd.strings_HasPrefix _ _ _)).mono ?_; rw [HPf.out]; rintro e w' ⟨rfl, rfl⟩) | (refine ⟨trivial, ?_⟩; gi_at_call 38; refine (callsIn_wide.2 (impl_line _ _ _ hs hpl)).mono ?_; rintro e w' ⟨rfl, rfl⟩))
          go_roundw
          case rel => exact ⟨p + lineLen (s.data.toList.drop p), acc, HR.out, by omega, by go_num, HJN.out, hzN, HFX.out⟩
          case measure => simp [intOf]; omega
        · have HPf : Hid (Lib.hasPrefix (s.extract p s.size).data.toList (⟨#[47, 47]⟩ : ByteArray).data.toList = false) := by unfold Hid; rw [hpf]; exact decide_eq_false hcm
          have hst := step_tok s p (endsL acc) hpp c hc h10 hbl hcm
          clear hpf hcm hbl h10
          rcases step_cases (s.data.toList.drop p) with ⟨d, h1, h2, h3⟩ | ⟨h1, h2, h3, h4⟩
          · have hd := (step_adv (s.data.toList.drop p) (endsL acc)).2 _ _ _ (hst.trans h1)
            rw [drop_len] at hd
            have HR : Hid (Reach s.data.toList (p + d) (acc ++ [⟨stepKind (s.data.toList.drop p), stepText (s.data.toList.drop p), p⟩])) := .tok HRe.out (by omega) (hst.trans h1)
            have HC : Hid (YCame s.data.toList (oks acc) (⟨stepKind (s.data.toList.drop p), stepText (s.data.toList.drop p), p⟩, 0)) := ⟨p, acc, HRe.out, rfl, by omega, .inl ⟨_, _, d, hst.trans h1, rfl⟩⟩
            generalize hsk : stepKind (s.data.toList.drop p) = sk at *
            generalize hstt : stepText (s.data.toList.drop p) = st at *
            have HK : Hid (stepKind (s.data.toList.drop p) = sk) := hsk
            have HT : Hid (stepText (s.data.toList.drop p) = st) := hstt
            have HCo : Hid (stepCode (s.data.toList.drop p) = 0) := h2
            have hlo2 : Hid (wr.heap[B + 2]? = some (lastObj acc)) := HFX0.out.last
            clear hsk hstt hst h1 h2
            subst h3
            obtain ⟨hd1, hd2⟩ := hd
            have hd3 : p + st.size ≤ s.size := by omega
            clear hd2
            gi_wp2_with (first | (refine ⟨trivial, ?_⟩; gi_at_call 36; refine (callsIn_wide.2 (impl_blank _ _)).mono ?_; rw [HBl.out]; rintro e w' ⟨rfl, rfl⟩) | (refine ⟨trivial, ?_⟩; gi_at_call 37; refine (callsIn_wide.2 (Tryd.strings_HasPrefix _ _ _)).mono ?_; rw [HPf.out]; rintro e w' ⟨rfl, rfl⟩) | (refine ⟨trivial, ?_⟩; gi_at_call 39; refine (callsIn_wide.2 (impl_tokAt2 _ _ _ hs hpp HFX.out.words HFX.out.signs (by first | (simp; omega) | simp) (by first | (simp; omega) | simp))).mono ?_; rw [HK.out, HT.out, HCo.out]; rintro e w1 ⟨rfl, hb1⟩; obtain ⟨hc1, hf1⟩ := bcellK hb1; have hz1 := hb1.size; simp only [World.size_alloc] at hz1; have hN1 := (hb1.block wr.heap.size (by simp)).trans (World.alloc_heap_new wr _); obtain ⟨hg3, hl3, hsz3⟩ := set3 (x' := .int .i64 sk) (y' := .string st) (z' := .int .i64 p) hN1; have hbw1 : Below wr.heap.size wr (((w1.setCell ⟨wr.heap.size, 0, none⟩ (.int .i64 sk)).setCell ⟨wr.heap.size, 1, none⟩ (.string st)).setCell ⟨wr.heap.size, 2, none⟩ (.int .i64 p)) := (((HbN.out.trans (hb1.mono (by simp))).setCell (Nat.le_refl _) _).setCell (Nat.le_refl _) _).setCell (Nat.le_refl _) _; obtain ⟨fn, tmps, assign, bod, hy, hR⟩ := hY _ _ wr (((w1.setCell ⟨wr.heap.size, 0, none⟩ (.int .i64 sk)).setCell ⟨wr.heap.size, 1, none⟩ (.string st)).setCell ⟨wr.heap.size, 2, none⟩ (.int .i64 p)) HJr.out hz hbw1 HC.out; simp only [yenc] at hy; have HL3 := (show Hid (_ = some (Obj.cells _ _ _)) from hl3); have HS3 := (show Hid (_ = w1.heap.size) from hsz3); clear hl3 hg3 hsz3 hN1))
            refine hR.mono ?_
            rintro e W' (⟨rfl, hJ', hk⟩ | ⟨rfl, hJx'⟩)
            · have hks := HS3.out
              have hN' := (hk.same wr.heap.size (.inr ⟨Nat.le_refl _, by omega⟩)).trans HL3.out
              have hL' := (hk.same (B + 2) (.inl (.inr (.inr rfl)))).trans ((hbw1.block (B + 2) hz).trans hlo2.out)
              have HA := (show Hid (J _ _ ∧ _) from after_round hbase hbb hbt hJ HFX0.out hz hbw1 hJ' hk)
              obtain ⟨n0, n1, n2, m0, m1, m2⟩ := cells3 hN'
              obtain ⟨l0, l1, l2, f0, f1, f2⟩ := cells3 hL'
              clear hN' hL' hk hJ' hR hy hks hc1 hf1 hz1
              gi_wp2
              have hmx : max 1 (st.size : Int) = (st.size : Int) := by omega
              rw [hmx]
              exact ⟨⟨p + st.size, _, HR.out, by omega, by go_num, HA.out.1, HA.out.2.1, HA.out.2.2⟩, by simp [intOf]; omega⟩
            · clear hR hy hc1 hf1 hz1
              gi_wp2
              rw [Exit.noGoto_normal]
              go_end0
              exact ⟨⟨_, rfl⟩, .inr ⟨_, trivial, hJx'⟩⟩
          · have HC : Hid (YCame s.data.toList (oks acc) (⟨0, ⟨#[]⟩, p⟩, 4)) := ⟨p, acc, HRe.out, rfl, by omega, .inr ⟨hst.trans h1, rfl⟩⟩
            have HK : Hid (stepKind (s.data.toList.drop p) = 0) := h2
            have HT : Hid (stepText (s.data.toList.drop p) = ⟨#[]⟩) := h3
            have HCo : Hid (stepCode (s.data.toList.drop p) = 4) := h4
            clear hst h1 h2 h3 h4
            gi_wp2_with (first | (refine ⟨trivial, ?_⟩; gi_at_call 36; refine (callsIn_wide.2 (impl_blank _ _)).mono ?_; rw [HBl.out]; rintro e w' ⟨rfl, rfl⟩) | (refine ⟨trivial, ?_⟩; gi_at_call 37; refine (callsIn_wide.2 (Tryd.strings_HasPrefix _ _ _)).mono ?_; rw [HPf.out]; rintro e w' ⟨rfl, rfl⟩) | (refine ⟨trivial, ?_⟩; gi_at_call 39; refine (callsIn_wide.2 (impl_tokAt2 _ _ _ hs hpp HFX.out.words HFX.out.signs (by first | (simp; omega) | simp) (by first | (simp; omega) | simp))).mono ?_; rw [HK.out, HT.out, HCo.out]; rintro e w1 ⟨rfl, hb1⟩; obtain ⟨hc1, hf1⟩ := bcellK hb1; have hz1 := hb1.size; simp only [World.size_alloc] at hz1; have hN1 := (hb1.block wr.heap.size (by simp)).trans (World.alloc_heap_new wr _); obtain ⟨hg3, hl3, hsz3⟩ := set3 (x' := .int .i64 0) (y' := .string ⟨#[]⟩) (z' := .int .i64 p) hN1; have hbw1 : Below wr.heap.size wr (((w1.setCell ⟨wr.heap.size, 0, none⟩ (.int .i64 0)).setCell ⟨wr.heap.size, 1, none⟩ (.string ⟨#[]⟩)).setCell ⟨wr.heap.size, 2, none⟩ (.int .i64 p)) := (((HbN.out.trans (hb1.mono (by simp))).setCell (Nat.le_refl _) _).setCell (Nat.le_refl _) _).setCell (Nat.le_refl _) _; obtain ⟨fn, tmps, assign, bod, hy, hR⟩ := hY _ _ wr (((w1.setCell ⟨wr.heap.size, 0, none⟩ (.int .i64 0)).setCell ⟨wr.heap.size, 1, none⟩ (.string ⟨#[]⟩)).setCell ⟨wr.heap.size, 2, none⟩ (.int .i64 p)) HJr.out hz hbw1 HC.out; simp only [yenc] at hy; have HL3 := (show Hid (_ = some (Obj.cells _ _ _)) from hl3); have HS3 := (show Hid (_ = w1.heap.size) from hsz3); clear hl3 hg3 hsz3 hN1))
            refine hR.mono ?_
            rintro e W' (⟨rfl, hJ', hk⟩ | ⟨rfl, hJx'⟩)
            · clear hk hR hy hc1 hf1 hz1
              gi_wp2
              rw [Exit.noGoto_normal]
              go_end0
              exact ⟨⟨_, rfl⟩, .inl ⟨_, .inr ⟨_, List.mem_append_right _ (List.mem_singleton.2 rfl), by show (4 : Int) ≠ 0; decide⟩, hJ'⟩⟩
            · clear hR hy hc1 hf1 hz1
              gi_wp2
              rw [Exit.noGoto_normal]
              go_end0
              exact ⟨⟨_, rfl⟩, .inr ⟨_, trivial, hJx'⟩⟩
      · have HR : Hid (Reach s.data.toList (p + 1) acc) := .skip HRe.out (by omega) (step_blank s p (endsL acc) hpp c hc h10 hbl)
        have HBl : Hid (blankB c = true) := hbl
        clear hbl h10
        gi_wp2_with ((refine ⟨trivial, ?_⟩; gi_at_call 36; refine (callsIn_wide.2 (impl_blank _ _)).mono ?_; rw [HBl.out]; rintro e w' ⟨rfl, rfl⟩))
        go_roundw
        case rel => exact ⟨p + 1, acc, HR.out, by omega, by go_num, HJN.out, hzN, HFX.out⟩
        case measure => simp [intOf]; omega
end Go.Proofs.YtnpjnmkmjcpjmaaDoor
