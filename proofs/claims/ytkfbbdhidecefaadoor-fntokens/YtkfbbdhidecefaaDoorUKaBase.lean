import Derived.Test.YtkfbbdhidecefaaDoorProg
import Derived.ProofKit
import Derived.Deep.MidRow
import Derived.WalkSpells
import Derived.WalkSmall
import Derived.Deep.Slices
import Derived.OpenVars
import Derived.Lib.LaidTab
set_option linter.unusedVariables false
set_option maxHeartbeats 16000000
set_option maxRecDepth 100000
namespace Go.Proofs.YtkfbbdhidecefaaDoor
open Go.RowKit
theorem kk : Hid True := trivial
theorem lr {n : Nat} : n ≤ n := Nat.le_refl n
theorem bO (w : World) (o : Obj) : Below w.heap.size w (w.alloc o) := (Below.refl _ _).alloc (Nat.le_refl _) _
theorem bA {w : World} {o : Obj} : Below w.heap.size w (w.alloc o) := bO w o
theorem bn {α : Type} [BEq α] [LawfulBEq α] {a b : α} (h : a ≠ b) : (a == b) = false := beq_eq_false_iff_ne.2 h
theorem rJ : Tryd.prog.follows Departure.mixedOrders = true := by kernel_rfl
variable {G : Prop}
theorem bA0 (h : G := by
 have hb : Hid (iy s = false) := by simp [Hid, iy]; omega
 go_enter Tryd.func62, Tryd.ntmps62
 go_wp2
 go_ret
 exact ⟨aq hb.out.symm, rfl⟩) : G := h
theorem bA1 (h : G := by
 go_wp2
 all_goals go_ret
 all_goals refine ⟨aq ?_, rfl⟩
 all_goals (rw [Bool.eq_iff_iff]; simp [aW]; omega)) : G := h
theorem bA2 (h : G := by
 go_wp2
 all_goals go_ret
 all_goals refine ⟨aq ?_, rfl⟩
 all_goals (rw [Bool.eq_iff_iff]; simp [aM]; omega)) : G := h
theorem bA3 (h : G := by
 intro i hi
 have : i = 0 := by have : i < 1 := hi; omega
 rcases this with rfl
 rw [← hV]; simp [go_sem, bJ]) : G := h
section
open Go.RowKit Go.ChangeShapes Go.WideShapes
inductive Nd where
 |nil
 |mk (k n : Int) (s : ByteArray) (len : Nat) (kids : Nat → Nd)
namespace Nd
def kind : Nd → Int | .nil => 0 | .mk k _ _ _ _ => k
def num : Nd → Int | .nil => 0 | .mk _ n _ _ _ => n
def name : Nd → ByteArray | .nil => ⟨#[]⟩ | .mk _ _ s _ _ => s
def len : Nd → Nat | .nil => 0 | .mk _ _ _ l _ => l
def kids : Nd → Nat → Nd | .nil => fun _ => .nil | .mk _ _ _ _ f => f
end Nd
def ag (f : Nat → Nat) : Nat → Nat
 |0 => 0
 |n + 1 => ag f n + f n
theorem FM (f : Nat → Nat) {a b : Nat} (h : a ≤ b) : ag f a ≤ ag f b := by
 induction h with
 |refl => exact Nat.le_refl _
 |step _ ih => exact Nat.le_trans ih (by simp [ag])
theorem nj (f : Nat → Nat) {a b : Nat} (h : a < b) : ag f a + f a ≤ ag f b := FM f (show a + 1 ≤ b from h)
def Nd.cost : Nd → Nat | .nil => 0 | .mk _ _ s len kids => s.size + (len + ag (fun i => (kids i).cost) len)
def Nd.size : Nd → Nat | .nil => 1 | .mk _ _ _ len kids => 1 + ag (fun i => (kids i).size) len
def Nd.Fine : Nd → Prop | .nil => True | .mk k n s len kids => (-9223372036854775808 ≤ k ∧ k ≤ 9223372036854775807) ∧ (-9223372036854775808 ≤ n ∧ n ≤ 9223372036854775807) ∧ s.size ≤ 9223372036854775807 ∧ len ≤ 9223372036854775807 ∧ ∀ i, i < len → (kids i).Fine
theorem Nd.cost_eq (T : Nd) : T.cost = T.name.size + (T.len + ag (fun i => (T.kids i).cost) T.len) := by cases T <;> rfl
theorem Nd.size_eq (T : Nd) : T.size = 1 + ag (fun i => (T.kids i).size) T.len := by cases T <;> rfl
theorem Nd.cost_kid (T : Nd) {i : Nat} (h : i < T.len) : (T.kids i).cost ≤ T.cost := by
 rw [T.cost_eq]; have := nj (fun i => (T.kids i).cost) h; omega
theorem AL {f g : Nat → Nat} {n : Nat} (h : ∀ i, i < n → f i ≤ 1 + g i) : ag f n ≤ n + ag g n := by
 induction n with
 |zero => simp [ag]
 |succ n ih => have := ih fun i hi => h i (by omega); have := h n (by omega); simp [ag]; omega
theorem Nd.size_cost (T : Nd) : T.size ≤ 1 + T.cost := by
 induction T with
 |nil => simp [Nd.size]
 |mk k n s len kids ih =>
  have := AL (f := fun i => (kids i).size) (g := fun i => (kids i).cost) (n := len) fun i _ => ih i
  simp only [Nd.size, Nd.cost]; omega
theorem Nd.fine_kid {T : Nd} (h : T.Fine) {i : Nat} (hi : i < T.len) : (T.kids i).Fine := by cases T; exact absurd hi (Nat.not_lt_zero _); exact h.2.2.2.2 i hi
theorem Nd.fine_len {T : Nd} (h : T.Fine) : T.len ≤ 9223372036854775807 := by cases T; exact Nat.zero_le _; exact h.2.2.2.1
theorem Nd.fine_name {T : Nd} (h : T.Fine) : T.name.size ≤ 9223372036854775807 := by cases T; exact Nat.zero_le _; exact h.2.2.1
def Row (lo hi : Nat) (w : World) : Nd → Value → Prop
  | .nil, v => ∃ a cap, v = .slice a 0 cap ∧ (0 ≤ cap ∧ cap ≤ 9223372036854775807)
  | .mk _ _ _ len kids, v => ∃ a cap, v = .slice a len cap ∧ (len ≤ cap ∧ cap ≤ 9223372036854775807) ∧ (len = 0 ∨ ∃ g off, a = some ⟨g, off, none⟩ ∧ lo ≤ g ∧ g < hi ∧ ∀ i, i < len →
      ∃ u, w.cell? ⟨g, off + i * 4, none⟩ = some (.int .i64 (kids i).kind) ∧ w.cell? ⟨g, off + i * 4 + 1, none⟩ = some (.int .i64 (kids i).num) ∧
        w.cell? ⟨g, off + i * 4 + 2, none⟩ = some (.string (kids i).name) ∧ w.cell? ⟨g, off + i * 4 + 3, none⟩ = some u ∧ Row lo hi w (kids i) u)
theorem ar {lo hi : Nat} {w : World} {T : Nd} {v : Value} : Row lo hi w T v ↔ ∃ a cap, v = .slice a T.len cap ∧ (T.len ≤ cap ∧ cap ≤ 9223372036854775807) ∧ (T.len = 0 ∨ ∃ g off, a = some ⟨g, off, none⟩ ∧ lo ≤ g ∧ g < hi ∧ ∀ i, i < T.len →
      ∃ u, w.cell? ⟨g, off + i * 4, none⟩ = some (.int .i64 (T.kids i).kind) ∧ w.cell? ⟨g, off + i * 4 + 1, none⟩ = some (.int .i64 (T.kids i).num) ∧
        w.cell? ⟨g, off + i * 4 + 2, none⟩ = some (.string (T.kids i).name) ∧ w.cell? ⟨g, off + i * 4 + 3, none⟩ = some u ∧ Row lo hi w (T.kids i) u) := by
  cases T with
  | nil => exact ⟨fun ⟨a, cap, h, hc⟩ => ⟨a, cap, h, hc, .inl rfl⟩, fun ⟨a, cap, h, hc, _⟩ => ⟨a, cap, h, hc⟩⟩
  | mk => exact Iff.rfl
theorem gn {lo hi L9 nx : Nat} {w w' : World} (lh : L9 ≤ lo) (gW : hi ≤ nx) (hc : ∀ g o, lo ≤ g → g < hi → w'.cell? ⟨g, o, none⟩ = w.cell? ⟨g, o, none⟩) :
  ∀ {T : Nd} {v : Value}, Row lo hi w T v → Row L9 nx w' T v := by
 intro T
 induction T with
 |nil => exact fun h => h
 |mk k n s len kids ih =>
  rintro v ⟨a, cap, rfl, bQ, h⟩
  refine ⟨a, cap, rfl, bQ, ?_⟩
  rcases h with h | ⟨g, off, rfl, h1, h2, h3⟩
  ·exact .inl h
  ·refine .inr ⟨g, off, rfl, by omega, by omega, fun i hi => ?_⟩
   obtain ⟨u, e0, e1, e2, e3, hr⟩ := h3 i hi
   exact ⟨u, by rw [hc _ _ h1 h2]; exact e0, by rw [hc _ _ h1 h2]; exact e1, by rw [hc _ _ h1 h2]; exact e2, by rw [hc _ _ h1 h2]; exact e3, ih i hr⟩
theorem ae {lo hi : Nat} {w w' : World} {B : Nat} (hb : Below B w w') (hB : hi ≤ B) {T : Nd} {v : Value} (h : Row lo hi w T v) : Row lo hi w' T v :=
 gn lr lr (fun g o _ h2 => hb.cell (p := ⟨g, o, none⟩) (by show g < B; omega)) h
theorem cD {lo hi L9 nx : Nat} {w : World} {T : Nd} {v : Value} (h : Row lo hi w T v) (lh : L9 ≤ lo) (gW : hi ≤ nx) : Row L9 nx w T v := gn lh gW (fun _ _ _ _ => rfl) h
theorem aa {p : Prop} (h : p) : Hid p := h
theorem nn {k : IntKind} {a b : Int} (h : a = b) : Ending.returned (.int k a) = .returned (.int k b) := by rw [h]
def Nd.val (T : Nd) (v : Value) : Value := .agg #[.int .i64 T.kind, .int .i64 T.num, .string T.name, v]
end
abbrev nO (T : Nd) (x : Value) : Obj := .cells #[.int .i64 T.kind, .int .i64 T.num, .string T.name, x] 27
def aW (c : Int) : Bool := decide (97 ≤ c ∧ c ≤ 122) || (decide (65 ≤ c ∧ c ≤ 90) || decide (c = 95))
def aM (c : Int) : Bool := decide (48 ≤ c ∧ c ≤ 57)
theorem aq {a b : Bool} (h : a = b) : Ending.returned (.bool a) = .returned (.bool b) := by rw [h]
theorem oO {a b : ByteArray} (h : a = b) : Ending.returned (.string a) = .returned (.string b) := by rw [h]
theorem tH {a b c d : Value} (h : a = c) (k : b = d) : Ending.returned (.tuple #[a, b]) = .returned (.tuple #[c, d]) := by rw [h, k]
theorem nM {k : IntKind} {a b : Int} (h : a = b) : Ending.returned (.int k a) = .returned (.int k b) := by rw [h]
theorem mA (c : Int) (w : World) : Calls Tryd.prog 56 #[.int .u8 c] w fun e w' => e = .returned (.bool (aW c)) ∧ w' = w := by
 go_enter Tryd.func56, Tryd.ntmps56
 exact bA1
theorem mh (c : Int) (w : World) : Calls Tryd.prog 58 #[.int .u8 c] w fun e w' => e = .returned (.bool (aM c)) ∧ w' = w := by
 go_enter Tryd.func58, Tryd.ntmps58
 exact bA2
theorem fT (c : Int) (w : World) : Calls Tryd.prog 14 #[.int .u8 c] w fun e w' => e = .returned (.bool (aW c)) ∧ w' = w := by
 go_enter Tryd.func14, Tryd.ntmps14
 exact bA1
theorem gX (c : Int) (w : World) : Calls Tryd.prog 15 #[.int .u8 c] w fun e w' => e = .returned (.bool (aM c)) ∧ w' = w := by
 go_enter Tryd.func15, Tryd.ntmps15
 exact bA2
def aR (c : Int) : Bool := aW c || aM c
def bC (l : List UInt8) : Nat := (l.takeWhile fun b => aR b.toNat).length
theorem ot (s : ByteArray) (k : Nat) (h : k < s.size) : s.data.toList.take (k + 1) = s.data.toList.take k ++ [s[k]] := by
 rw [List.take_succ_eq_append_getElem (by simpa using h)]; rfl
theorem oq {l : List UInt8} {k : Nat} (h : ∀ b ∈ l.take k, aR b.toNat = true) (hk : k ≤ l.length) (hn : ∀ bm : k < l.length, aR l[k].toNat = false) : bC l = k := by
 induction l generalizing k with
 |nil => simpa [bC] using Eq.symm (by simpa using hk : k = 0)
 |cons a l ih =>
  cases k with
  |zero =>
   have h0 : aR a.toNat = false := hn (by simp)
   simp [bC, h0]
  |succ k =>
   have h0 : aR a.toNat = true := h a (by simp)
   have := ih (k := k) (fun b hb => h b (by simp [hb])) (by simpa using hk) (fun bm => hn (Nat.succ_lt_succ bm))
   unfold bC at this ⊢
   simp [h0, this]
theorem qh (s : ByteArray) (w : World) (hs : s.size ≤ maxLen) :
  Calls Tryd.prog 76 #[.string s] w fun e w' => e = .returned (.int .i64 (bC s.data.toList)) ∧ w' = w := by
 unfold maxLen at hs
 go_enter Tryd.func76, Tryd.ntmps76
 go_wp2
 go_loop [3] (fun i => ∃ k : Nat, k ≤ s.size ∧ i = .int .i64 k ∧ Hid (∀ b ∈ s.data.toList.take k, aR b.toNat = true)) (fun i => s.size - (intOf i).toNat)
 case atStart => exact ⟨0, Nat.zero_le _, rfl, by simp [Hid]⟩
 case round =>
  obtain ⟨k, hk, rfl, aN⟩ := hrel
  by_cases bm : k < s.size
  ·have oB : aR s[k].toNat = false → bC s.data.toList = k := fun hb => oq aN.out (by simpa using hk) (fun _ => hb)
   have fY : aR s[k].toNat = true → ∀ b ∈ s.data.toList.take (k + 1), aR b.toNat = true := fun hb b hm => by
    rw [ot s k bm, List.mem_append] at hm
    rcases hm with hm | hm
    ·exact aN.out b hm
    ·simp at hm; rw [hm]; exact hb
   have HE : Hid (aR s[k].toNat = false → bC s.data.toList = k) := oB
   have HG : Hid (aR s[k].toNat = true → ∀ b ∈ s.data.toList.take (k + 1), aR b.toNat = true) := fY
   clear oB fY
   cases hl : aW s[k].toNat <;> cases hd : aM s[k].toNat
   all_goals
    go_wp2_with (first | (go_at_call 56; refine (mA _ _).mono ?_; rintro e w' ⟨rfl, rfl⟩) | (go_at_call 58; refine (mh _ _).mono ?_; rintro e w' ⟨rfl, rfl⟩))
   ·go_ret
    exact ⟨nM (by rw [HE.out (by simp [aR, hl, hd])]), rfl⟩
   all_goals
    go_round
    case rel => exact ⟨k + 1, by omega, by go_num, HG.out (by simp [aR, hl, hd])⟩
    case measure => simp [intOf]; omega
  ·have oB : bC s.data.toList = k := oq aN.out (by simpa using hk) (fun h => by simp at h; omega)
   have HE : Hid (bC s.data.toList = k) := oB
   clear oB
   go_wp2
   go_ret
   exact ⟨nM (by rw [HE.out]), rfl⟩
def aS : List ByteArray := [⟨#[102, 117, 110, 99]⟩, ⟨#[105, 102]⟩, ⟨#[101, 108, 115, 101]⟩, ⟨#[102, 111, 114]⟩, ⟨#[114, 101, 116, 117, 114, 110]⟩, ⟨#[103, 111]⟩, ⟨#[100, 101, 102, 101, 114]⟩, ⟨#[115, 101, 108, 101, 99, 116]⟩, ⟨#[99, 97, 115, 101]⟩, ⟨#[100, 101, 102, 97, 117, 108, 116]⟩, ⟨#[98, 114, 101, 97, 107]⟩, ⟨#[99, 111, 110, 116, 105, 110, 117, 101]⟩, ⟨#[99, 104, 97, 110]⟩, ⟨#[105, 110, 116]⟩, ⟨#[98, 111, 111, 108]⟩, ⟨#[116, 114, 117, 101]⟩, ⟨#[102, 97, 108, 115, 101]⟩, ⟨#[109, 97, 107, 101]⟩, ⟨#[99, 108, 111, 115, 101]⟩, ⟨#[112, 114, 105, 110, 116]⟩, ⟨#[112, 97, 110, 105, 99]⟩]
def cg (w : World) (b : Nat) (ss : List ByteArray) : Prop := ∀ i, i < ss.length → w.cell? ⟨b, i, none⟩ = some (.string (ss.getD i ⟨#[]⟩))
theorem qG (w : World) (ss : List ByteArray) (t : TypeId) : cg (w.alloc (.cells (ss.map Value.string).toArray t)) w.heap.size ss := by
 intro i hi
 have := World.cell?_alloc_new w (ss.map Value.string).toArray t i
 rw [this]
 simp [List.getD, hi]
theorem mY (a b : ByteArray) : (a.toList == b.toList) = decide (a = b) := by
 rw [ByteArray.toList_eq, ByteArray.toList_eq, Bool.eq_iff_iff]
 simp only [beq_iff_eq, decide_eq_true_eq]
 constructor
 ·intro h; cases a; cases b; simp only at h; congr; exact Array.ext' h
 ·intro h; rw [h]
theorem uP (w : World) : Calls Tryd.prog 17 #[] w fun e w' => e = .returned (.slice (some ⟨w.heap.size, 0, none⟩) 21 21) ∧ Below w.heap.size w w' ∧ cg w' w.heap.size aS ∧ w.heap.size < w'.heap.size := by
 go_enter Tryd.func17, Tryd.ntmps17
 go_wp2
 go_ret
 refine ⟨rfl, bA, ?_, by simp⟩
 exact qG w aS 9
def hasB (ss : List ByteArray) (t : ByteArray) : Bool := ss.any fun s => decide (s = t)
theorem lq (ss : List ByteArray) (t : ByteArray) : hasB ss t = true ↔ t ∈ ss := by simp [hasB]
theorem qy {ss : List ByteArray} {t : ByteArray} {k : Nat} (hk : k < ss.length) (h : t ∉ ss.take k) (hn : (ss[k].toList == t.toList) = false) : t ∉ ss.take (k + 1) := by
 rw [List.take_succ_eq_append_getElem hk]
 rw [mY, decide_eq_false_iff_not] at hn
 intro hm
 rcases List.mem_append.1 hm with hm | hm
 ·exact h hm
 ·exact hn (List.mem_singleton.1 hm).symm
theorem rU {ss : List ByteArray} {t : ByteArray} {k : Nat} (hk : k < ss.length) (hn : (ss[k].toList == t.toList) = true) : true = hasB ss t := by
 rw [mY, decide_eq_true_eq] at hn
 rw [← hn]; exact ((lq _ _).2 (List.getElem_mem hk)).symm
theorem rV {ss : List ByteArray} {t : ByteArray} {k : Nat} (hk : ss.length ≤ k) (h : t ∉ ss.take k) : false = hasB ss t := by
 rw [List.take_of_length_le hk] at h
 exact (Bool.eq_false_iff.2 fun e => h ((lq _ _).1 e)).symm
theorem mr (ss : List ByteArray) (t : ByteArray) (b n : Nat) (w : World) (hr : cg w b ss) (hn : ss.length = n) (hl : n < 1000) :
  Calls Tryd.prog 16 #[.slice (some ⟨b, 0, none⟩) n n, .string t] w fun e w' => e = .returned (.bool (hasB ss t)) ∧ w' = w := by
 subst hn
 go_enter Tryd.func16, Tryd.ntmps16
 go_wp2
 go_loop [5] (fun i => ∃ k : Nat, k ≤ ss.length ∧ i = .int .i64 k ∧ Hid (t ∉ ss.take k)) (fun i => ss.length - (intOf i).toNat)
 case atStart => exact ⟨0, Nat.zero_le _, rfl, by simp [Hid]⟩
 case round =>
  obtain ⟨k, hk, rfl, aN⟩ := hrel
  by_cases bm : k < ss.length
  ·have hc := hr k bm
   clear hr
   go_wp2
   ·go_ret
    exact ⟨aq (rU bm ‹_›), rfl⟩
   ·exact ⟨⟨k + 1, by omega, by go_num, qy bm aN.out ‹_›⟩, by simp [intOf]; omega⟩
  ·clear hr
   go_wp2
   go_ret
   exact ⟨aq (rV (by omega) aN.out), rfl⟩
theorem pC {P : Program} {t e : TypeId} {n : Nat} (w : World) (ss : List ByteArray) (k : Nat) (hu : P.underlying t = some (.array n e)) (he : P.underlying e = some .string) (hi : (P.info? e).map (·.size) = some 1) (hk : k < n) (hl : ss.length = n) :
  (Instr.index t (.agg (ss.map Value.string).toArray) (.int .i64 k)).run P w = .ok (.string (ss.getD k ⟨#[]⟩)) w := by
 have hagg : (isAgg e).run P w = .ok false w := by
  unfold isAgg
  rw [Sem.run_bind, run_underlying he w]
  rfl
 cases hq : P.info? e with
 |none => simp [hq] at hi
 |some i =>
  have hs : i.size = 1 := by simpa [hq] using hi
  have h2 : k < ss.length := by omega
  simp [Instr.index, asIntOf, Sem.run_bind, run_underlying hu w, part, hagg, sizeOf, typeInfo, hq, hs, h2, List.getD]
  omega
theorem uG {w : World} {b : Nat} {ss : List ByteArray} (h : cg w b ss) : w.rangeAt b 0 (ss.map Value.string) := by
 intro j v hv
 rw [List.getElem?_map, Option.map_eq_some_iff] at hv
 obtain ⟨s, hs, rfl⟩ := hv
 obtain ⟨bm, hs⟩ := List.getElem?_eq_some_iff.1 hs
 have := h j bm
 rw [Nat.zero_add, this]
 simp [List.getD, bm, hs]
theorem DQ (t : ByteArray) (w : World) (hr : cg w 1 aS) :
  Calls Tryd.prog 77 #[.string t] w fun e w' => e = .returned (.bool (hasB aS t)) ∧ w' = w := by
 have Hd : Hid (w.rangeAt 1 0 (aS.map Value.string)) := uG hr
 have bP : (Tryd.prog.info? 106).map (·.size) = some (aS.map Value.string).length := by kernel_rfl
 have GH : (Tryd.prog.info? 9).map (·.size) = some 1 := by kernel_rfl
 have HZ : Hid ((Tryd.prog.info? 106).map (·.size) = some (aS.map Value.string).length) := bP
 have hix : Hid (∀ k : Nat, k < 21 → (Instr.index 106 (.agg (aS.map Value.string).toArray) (.int .i64 k)).run Tryd.prog w = .ok (.string (aS.getD k ⟨#[]⟩)) w) :=
  fun k hk => pC w aS k Tryd.underlying106 Tryd.underlying9 GH hk rfl
 clear hr bP GH
 generalize Sn : aS = ss at *
 have hlen : Hid (ss.length = 21) := by rw [← Sn]; rfl
 clear Sn
 go_enter Tryd.func77, Tryd.ntmps77
 go_wp2_with (refine wpList_load_mid rfl 106 _ rfl 1 0 rfl _ _ Hd.out Tryd.underlying106 rfl HZ.out ?_)
 go_loop [6] (fun i => ∃ k : Nat, k ≤ 21 ∧ i = .int .i64 k ∧ Hid (t ∉ ss.take k)) (fun i => 21 - (intOf i).toNat)
 case atStart => exact ⟨0, Nat.zero_le _, rfl, by simp [Hid]⟩
 case round =>
  obtain ⟨k, hk, rfl, aN⟩ := hrel
  by_cases bm : k < 21
  ·have hi := hix.out k bm
   have yG : k < ss.length := by rw [hlen.out]; exact bm
   go_wp2
   ·go_ret
    exact ⟨aq (rU yG ‹_›), rfl⟩
   ·exact ⟨⟨k + 1, by omega, by go_num, qy yG aN.out ‹_›⟩, by simp [intOf]; omega⟩
  ·go_wp2
   go_ret
   exact ⟨aq (rV (by rw [hlen.out]; omega) aN.out), rfl⟩
def iy (s : ByteArray) : Bool := decide (1 ≤ s.size ∧ s.size ≤ 40) && (aW (s.data.toList.headD 0).toNat && decide (bC s.data.toList = s.size))
theorem KB (s : ByteArray) (h : 0 < s.size) : s.data.toList.headD 0 = s[0] := by
 have : 0 < s.data.toList.length := by simpa using h
 cases hl : s.data.toList with
 |nil => simp [hl] at this
 |cons a l =>
  have : s.data.toList[0]'this = a := by simp [hl]
  show a = s.data[0]
  rw [← this]; rfl
theorem yR (s : ByteArray) (w : World) (hs : s.size ≤ maxLen) :
  Calls Tryd.prog 62 #[.string s] w fun e w' => e = .returned (.bool (iy s)) ∧ w' = w := by
 unfold maxLen at hs
 by_cases h1 : s.size < 1
 ·exact bA0
 by_cases h2 : 40 < s.size
 ·exact bA0
 have h0 : 0 < s.size := by omega
 have hh := KB s h0
 cases hl : aW s[0].toNat
 ·have hb : Hid (iy s = false) := by unfold Hid iy; rw [hh, hl]; simp
  clear hh
  go_enter Tryd.func62, Tryd.ntmps62
  go_wp2_with (go_at_call 14; refine (fT _ _).mono ?_; rintro e w' ⟨rfl, rfl⟩)
  go_ret
  exact ⟨aq hb.out.symm, rfl⟩
 ·have hb : Hid (iy s = decide (bC s.data.toList = s.size)) := by
   have : 1 ≤ s.size ∧ s.size ≤ 40 := by omega
   unfold Hid iy; rw [hh, hl]; simp [this]
  have yg : Hid (∀ b ∈ s.data.toList.take 1, aR b.toNat = true) := by
   intro b hm
   rw [ot s 0 h0] at hm
   simp at hm
   rw [hm]; simp [aR, hl]
  clear hh
  go_enter Tryd.func62, Tryd.ntmps62
  go_wp2_with (go_at_call 14; refine (fT _ _).mono ?_; rintro e w' ⟨rfl, rfl⟩)
  clear hl
  go_loop [3] (fun i => ∃ k : Nat, k ≤ s.size ∧ i = .int .i64 k ∧ Hid (∀ b ∈ s.data.toList.take k, aR b.toNat = true)) (fun i => s.size - (intOf i).toNat)
  case atStart => exact ⟨1, by omega, rfl, yg⟩
  case round =>
   obtain ⟨k, hk, rfl, aN⟩ := hrel
   clear yg
   by_cases bm : k < s.size
   ·have HE : Hid (aR s[k].toNat = false → iy s = false) := fun hbb => by
     rw [hb.out, oq aN.out (by simpa using hk) (fun _ => hbb)]
     simp; omega
    have HG : Hid (aR s[k].toNat = true → ∀ b ∈ s.data.toList.take (k + 1), aR b.toNat = true) := fun hbb b hm => by
     rw [ot s k bm, List.mem_append] at hm
     rcases hm with hm | hm
     ·exact aN.out b hm
     ·simp at hm; rw [hm]; exact hbb
    cases hl : aW s[k].toNat <;> cases hd : aM s[k].toNat
    all_goals
     go_wp2_with (first | (go_at_call 14; refine (fT _ _).mono ?_; rintro e w' ⟨rfl, rfl⟩) | (go_at_call 15; refine (gX _ _).mono ?_; rintro e w' ⟨rfl, rfl⟩))
    ·go_ret
     exact ⟨aq (HE.out (by simp [aR, hl, hd])).symm, rfl⟩
    all_goals
     go_round
     case rel => exact ⟨k + 1, by omega, by go_num, HG.out (by simp [aR, hl, hd])⟩
     case measure => simp [intOf]; omega
   ·have oB : Hid (iy s = true) := by
     unfold Hid
     rw [hb.out, oq aN.out (by simpa using hk) (fun h => by simp at h; omega)]
     simp; omega
    go_wp2
    go_ret
    exact ⟨aq oB.out.symm, rfl⟩
def ck (s : ByteArray) : Bool := iy s && !hasB aS s
theorem l6 (s : ByteArray) (w : World) (hs : s.size ≤ maxLen) :
  Calls Tryd.prog 42 #[.string s] w fun e w' => e = .returned (.bool (ck s)) ∧ Below w.heap.size w w' := by
 cases hb : iy s
 ·go_enter Tryd.func42, Tryd.ntmps42
  go_wp2_with (go_at_call 62; refine (yR _ _ hs).mono ?_; rintro e w' ⟨rfl, rfl⟩)
  go_ret
  exact ⟨aq (by simp [ck, hb]), Below.refl _ _⟩
 ·go_enter Tryd.func42, Tryd.ntmps42
  go_wp2_with (first | (go_at_call 62; refine (yR _ _ hs).mono ?_; rintro e w' ⟨rfl, rfl⟩) | (go_at_call 17; refine (uP _).mono ?_; rintro e w1 ⟨rfl, mG, iT, bP⟩; have HR : Hid (cg w1 w'.heap.size aS) := iT; clear iT) | (go_at_call 16; refine (mr aS _ _ 21 _ HR.out rfl (by omega)).mono ?_; rintro e w2 ⟨rfl, rfl⟩))
  go_ret
  exact ⟨aq (by simp [ck, hb]), mG⟩
def bJ : Nat → List ByteArray
 |1 => [⟨#[124, 124]⟩]
 |2 => [⟨#[38, 38]⟩]
 |3 => [⟨#[61, 61]⟩, ⟨#[33, 61]⟩, ⟨#[60]⟩, ⟨#[60, 61]⟩, ⟨#[62]⟩, ⟨#[62, 61]⟩]
 |4 => [⟨#[43]⟩, ⟨#[45]⟩]
 |5 => [⟨#[42]⟩, ⟨#[47]⟩, ⟨#[37]⟩]
 |_ => []
def lX (s : ByteArray) : Nat := if hasB (bJ 1) s then 1 else if hasB (bJ 2) s then 2 else if hasB (bJ 3) s then 3 else if hasB (bJ 4) s then 4 else if hasB (bJ 5) s then 5 else 0
def cM (p : Nat → Bool) : Nat → Bool
 |0 => true
 |n + 1 => cM p n && p n
theorem bD {p : Nat → Bool} : ∀ {n : Nat}, cM p n = true ↔ ∀ i, i < n → p i = true
 |0 => by simp [cM]
 |n + 1 => by
  simp only [cM, Bool.and_eq_true, bD (n := n)]
  constructor
  ·rintro ⟨h, k⟩ i hi
   by_cases e : i = n
   ·subst e; exact k
   ·exact h i (by omega)
  ·intro h; exact ⟨fun i hi => h i (by omega), h n (by omega)⟩
theorem lG {p : Nat → Bool} {n i : Nat} (hi : i < n) (h : p i = false) : cM p n = false := by
 rw [Bool.eq_false_iff]; intro e; rw [bD.1 e i hi] at h; cases h
theorem iD {p : Nat → Bool} {n : Nat} (h : ∀ i, i < n → p i = true) : cM p n = true := bD.2 h
def fU (e st : Nat → Bool) (kk : Nat → Int) (c : Nat) (i : Nat) : Bool :=
 if c = 101 then e i else if c = 99 then decide (kk i = 25) && e i else if c = 98 then decide (kk i = 4) && st i else (decide (kk i = 4) || decide (kk i = 10)) && st i
def aE (e st : Nat → Bool) (kk : Nat → Int) (len : Nat) (bo : ByteArray) : Bool :=
 decide (len = bo.size) && cM (fun i => fU e st kk (bo.data.toList.getD i 0).toNat i) bo.size
def az (s : ByteArray) : Bool := s.toList.isEmpty
def cq (k n : Int) (s : ByteArray) (len : Nat) (e st : Nat → Bool) (kk : Nat → Int) : Bool :=
 if k = 22 then az s && (decide (0 ≤ n) && decide (n ≤ 999999999999999999) && decide (len = 0))
 else if k = 23 then az s && ((decide (n = 0) || decide (n = 1)) && decide (len = 0))
 else if k = 24 then decide (n = 0) && (ck s && decide (len = 0))
 else if k = 25 then decide (n = 0) && (ck s && cM e len)
 else if k = 26 then az s && decide (n = 0) && (decide (len < 2) && cM e len)
 else if k = 27 then decide (n = 0) && ((s.toList == [45] || s.toList == [33]) && aE e st kk len ⟨#[101]⟩)
 else if k = 28 then decide (n = 0) && (decide (0 < lX s) && aE e st kk len ⟨#[101, 101]⟩)
 else if k = 29 then az s && decide (n = 0) && aE e st kk len ⟨#[101]⟩
 else false
def aJ (k n : Int) (s : ByteArray) (len : Nat) (e st cs : Nat → Bool) (kk : Nat → Int) : Bool :=
 if k = 4 then az s && decide (n = 0) && cM st len
 else if k = 5 ∨ k = 6 then !az s && ck s && decide (n = 0) && aE e st kk len ⟨#[101]⟩
 else if k = 7 then !az s && ck s && ((decide (n = 1) || decide (n = -1)) && decide (len = 0))
 else if k = 8 then az s && decide (n = 0) && aE e st kk len ⟨#[101, 101]⟩
 else if k = 9 then az s && decide (n = 0) && (aE e st kk len ⟨#[101]⟩ && (decide (kk 0 = 25) || decide (kk 0 = 29)))
 else if k = 10 then az s && decide (n = 0) && (aE e st kk len ⟨#[101, 98]⟩ || aE e st kk len ⟨#[101, 98, 105]⟩)
 else if k = 11 then az s && decide (n = 0) && (aE e st kk len ⟨#[98]⟩ || aE e st kk len ⟨#[101, 98]⟩)
 else if k = 12 then az s && decide (n = 0) && (decide (len = 0) || aE e st kk len ⟨#[101]⟩)
 else if k = 13 ∨ k = 14 then az s && decide (n = 0) && aE e st kk len ⟨#[99]⟩
 else if k = 15 then az s && decide (n = 0) && cM cs len
 else if k = 17 ∨ k = 18 then az s && decide (n = 0) && decide (len = 0)
 else if k = 19 ∨ k = 20 ∨ k = 21 then az s && decide (n = 0) && aE e st kk len ⟨#[101]⟩
 else false
def mE (k n : Int) (s : ByteArray) (len : Nat) (e st : Nat → Bool) (kk : Nat → Int) : Bool :=
 if k = 16 then (az s || (decide (n = 1) && ck s)) &&
  (if n = 0 then aE e st kk len ⟨#[98]⟩ else if n = 1 then aE e st kk len ⟨#[101, 98]⟩ else if n = 2 then aE e st kk len ⟨#[101, 101, 98]⟩ else false)
 else false
def A2 : Nd → Bool × Bool × Bool
  | .nil => (false, false, false)
  | .mk k n s len kids =>
    (cq k n s len (fun i => (A2 (kids i)).1) (fun i => (A2 (kids i)).2.1) (fun i => (kids i).kind),
     aJ k n s len (fun i => (A2 (kids i)).1) (fun i => (A2 (kids i)).2.1) (fun i => (A2 (kids i)).2.2) (fun i => (kids i).kind),
     mE k n s len (fun i => (A2 (kids i)).1) (fun i => (A2 (kids i)).2.1) (fun i => (kids i).kind))
def Nd.eOk (T : Nd) : Bool := (A2 T).1
def Nd.sOk (T : Nd) : Bool := (A2 T).2.1
def Nd.cOk (T : Nd) : Bool := (A2 T).2.2
def Nd.kk (T : Nd) (i : Nat) : Int := (T.kids i).kind
theorem b8 (T : Nd) : T.eOk = cq T.kind T.num T.name T.len (fun i => (T.kids i).eOk) (fun i => (T.kids i).sOk) T.kk := by cases T <;> rfl
theorem aG (T : Nd) : T.sOk = aJ T.kind T.num T.name T.len (fun i => (T.kids i).eOk) (fun i => (T.kids i).sOk) (fun i => (T.kids i).cOk) T.kk := by cases T <;> rfl
theorem pQ (T : Nd) : T.cOk = mE T.kind T.num T.name T.len (fun i => (T.kids i).eOk) (fun i => (T.kids i).sOk) T.kk := by cases T <;> rfl
def mb (T : Nd) : Bool := decide (T.kind = 3) && ck T.name && (decide (1 ≤ T.num) && decide (T.num ≤ 3)) && decide (T.len = 0)
def fR (T : Nd) : Bool := decide (T.kind = 2) && ck T.name && (decide (0 ≤ T.num) && decide (T.num ≤ 3)) && decide (1 ≤ T.len) &&
 (cM (fun i => mb (T.kids i)) (T.len - 1) && (decide ((T.kids (T.len - 1)).kind = 4) && (T.kids (T.len - 1)).sOk))
def gg (T : Nd) : Bool := decide (T.size ≤ 600) && decide (T.kind = 1) && decide (T.num = 0) && az T.name && cM (fun i => fR (T.kids i)) T.len
theorem Kk {s : ByteArray} {k : Nat} (h1 : 1 ≤ k) (h5 : k ≤ 5) (hb : ∀ j, 1 ≤ j → j < k → hasB (bJ j) s = false) (h : hasB (bJ k) s = true) : lX s = k := by
 have : k = 1 ∨ k = 2 ∨ k = 3 ∨ k = 4 ∨ k = 5 := by omega
 unfold lX
 rcases this with rfl | rfl | rfl | rfl | rfl
 ·simp [h]
 ·simp [h, hb 1 (by omega) (by omega)]
 ·simp [h, hb 1 (by omega) (by omega), hb 2 (by omega) (by omega)]
 ·simp [h, hb 1 (by omega) (by omega), hb 2 (by omega) (by omega), hb 3 (by omega) (by omega)]
 ·simp [h, hb 1 (by omega) (by omega), hb 2 (by omega) (by omega), hb 3 (by omega) (by omega), hb 4 (by omega) (by omega)]
theorem Gs {s : ByteArray} (hb : ∀ j, 1 ≤ j → j < 6 → hasB (bJ j) s = false) : lX s = 0 := by
 unfold lX
 simp [hb 1 (by omega) (by omega), hb 2 (by omega) (by omega), hb 3 (by omega) (by omega), hb 4 (by omega) (by omega), hb 5 (by omega) (by omega)]
theorem tJ (s : ByteArray) (w : World) : Calls Tryd.prog 88 #[.string s] w fun e w' => e = .returned (.int .i64 (lX s : Int)) ∧ Below w.heap.size w w' := by
  go_enter Tryd.func88, Tryd.ntmps88
  go_wp2
  generalize hV : (((((((w.alloc (Obj.cells #[] 9)).alloc (Obj.cells #[Value.string { data := #[124, 124] }] 9)).alloc (Obj.cells #[Value.string { data := #[38, 38] }] 9)).alloc (Obj.cells #[Value.string { data := #[61, 61] }, Value.string { data := #[33, 61] }, Value.string { data := #[60] }, Value.string { data := #[60, 61] }, Value.string { data := #[62] }, Value.string { data := #[62, 61] }] 9)).alloc (Obj.cells #[Value.string { data := #[43] }, Value.string { data := #[45] }] 9)).alloc (Obj.cells #[Value.string { data := #[42] }, Value.string { data := #[47] }, Value.string { data := #[37] }] 9)).alloc
      (Obj.cells #[Value.slice (some { block := w.heap.size, off := 0 }) 0 0, Value.slice (some { block := w.heap.size + 1, off := 0 }) 1 1, Value.slice (some { block := w.heap.size + 1 + 1, off := 0 }) 1 1, Value.slice (some { block := w.heap.size + 1 + 1 + 1, off := 0 }) 6 6, Value.slice (some { block := w.heap.size + 1 + 1 + 1 + 1, off := 0 }) 2 2, Value.slice (some { block := w.heap.size + 1 + 1 + 1 + 1 + 1, off := 0 }) 3 3] 46)) = V
  have Qz : Hid (Below w.heap.size w V) := by
    unfold Hid
    rw [← hV]
    exact (((((((Below.refl _ w).alloc lr _).alloc (by simp) _).alloc (by simp; omega) _).alloc (by simp; omega) _).alloc (by simp; omega) _).alloc (by simp; omega) _).alloc (by simp; omega) _
  have c1 : V.cell? ⟨w.heap.size + 1 + 1 + 1 + 1 + 1 + 1, 1, none⟩ = some (.slice (some ⟨w.heap.size + 1, 0, none⟩) 1 1) := by rw [← hV]; simp [go_sem]
  have c2 : V.cell? ⟨w.heap.size + 1 + 1 + 1 + 1 + 1 + 1, 2, none⟩ = some (.slice (some ⟨w.heap.size + 1 + 1, 0, none⟩) 1 1) := by rw [← hV]; simp [go_sem]
  have c3 : V.cell? ⟨w.heap.size + 1 + 1 + 1 + 1 + 1 + 1, 3, none⟩ = some (.slice (some ⟨w.heap.size + 1 + 1 + 1, 0, none⟩) 6 6) := by rw [← hV]; simp [go_sem]
  have c4 : V.cell? ⟨w.heap.size + 1 + 1 + 1 + 1 + 1 + 1, 4, none⟩ = some (.slice (some ⟨w.heap.size + 1 + 1 + 1 + 1, 0, none⟩) 2 2) := by rw [← hV]; simp [go_sem]
  have c5 : V.cell? ⟨w.heap.size + 1 + 1 + 1 + 1 + 1 + 1, 5, none⟩ = some (.slice (some ⟨w.heap.size + 1 + 1 + 1 + 1 + 1, 0, none⟩) 3 3) := by rw [← hV]; simp [go_sem]
  have R1 : Hid (cg V (w.heap.size + 1) (bJ 1)) := by
    exact bA3
  have R2 : Hid (cg V (w.heap.size + 1 + 1) (bJ 2)) := by
    exact bA3
  have R3 : Hid (cg V (w.heap.size + 1 + 1 + 1) (bJ 3)) := by
    intro i hi
    have : i = 0 ∨ i = 1 ∨ i = 2 ∨ i = 3 ∨ i = 4 ∨ i = 5 := by have : i < 6 := hi; omega
    rw [← hV]
    rcases this with rfl | rfl | rfl | rfl | rfl | rfl <;> simp [go_sem, bJ]
  have R4 : Hid (cg V (w.heap.size + 1 + 1 + 1 + 1) (bJ 4)) := by
    intro i hi
    have : i = 0 ∨ i = 1 := by have : i < 2 := hi; omega
    rw [← hV]
    rcases this with rfl | rfl <;> simp [go_sem, bJ]
  have R5 : Hid (cg V (w.heap.size + 1 + 1 + 1 + 1 + 1) (bJ 5)) := by
    intro i hi
    have : i = 0 ∨ i = 1 ∨ i = 2 := by have : i < 3 := hi; omega
    rw [← hV]
    rcases this with rfl | rfl | rfl <;> simp [go_sem, bJ]
  clear hV
  go_loop [4] (fun i => ∃ k : Nat, 1 ≤ k ∧ k ≤ 6 ∧ i = .int .i64 k ∧ Hid (∀ j, 1 ≤ j → j < k → hasB (bJ j) s = false)) (fun i => 6 - (intOf i).toNat)
  case atStart => exact ⟨1, by omega, by omega, rfl, fun j h1 h2 => by omega⟩
  case round =>
    obtain ⟨k, h1, h6, rfl, yF⟩ := hrel
    have HS : ∀ k', k' = k → hasB (bJ k') s = false → Hid (∀ j, 1 ≤ j → j < k' + 1 → hasB (bJ j) s = false) := fun k' e h j h1 h2 => by
      by_cases hj : j = k'
      · rw [hj]; exact h
      · exact yF.out j h1 (by omega)
    have HH : ∀ k', k' = k → k' ≤ 5 → hasB (bJ k') s = true → Hid (lX s = k') := fun k' e h5 h => by
      subst e; exact Kk h1 h5 yF.out h
    have HS := aa HS
    have HH := aa HH
    have hk : k = 1 ∨ k = 2 ∨ k = 3 ∨ k = 4 ∨ k = 5 ∨ k = 6 := by omega
    rcases hk with rfl | rfl | rfl | rfl | rfl | rfl
    · cases hh : hasB (bJ 1) s
      all_goals have HX := aa hh
      all_goals go_wp2_with (go_at_call 16; refine (mr (bJ 1) _ _ 1 _ R1.out rfl (by omega)).mono ?_; rw [HX.out]; rintro e w' ⟨rfl, rfl⟩)
      · go_round
        case rel => exact ⟨2, by omega, by omega, rfl, HS.out 1 rfl HX.out⟩
        case measure => simp [intOf]
      · go_ret
        exact ⟨nn (by rw [(HH.out 1 rfl (by omega) HX.out).out]; rfl), Qz.out⟩
    · cases hh : hasB (bJ 2) s
      all_goals have HX := aa hh
      all_goals go_wp2_with (go_at_call 16; refine (mr (bJ 2) _ _ 1 _ R2.out rfl (by omega)).mono ?_; rw [HX.out]; rintro e w' ⟨rfl, rfl⟩)
      · go_round
        case rel => exact ⟨3, by omega, by omega, rfl, HS.out 2 rfl HX.out⟩
        case measure => simp [intOf]
      · go_ret
        exact ⟨nn (by rw [(HH.out 2 rfl (by omega) HX.out).out]; rfl), Qz.out⟩
    · cases hh : hasB (bJ 3) s
      all_goals have HX := aa hh
      all_goals go_wp2_with (go_at_call 16; refine (mr (bJ 3) _ _ 6 _ R3.out rfl (by omega)).mono ?_; rw [HX.out]; rintro e w' ⟨rfl, rfl⟩)
      · go_round
        case rel => exact ⟨4, by omega, by omega, rfl, HS.out 3 rfl HX.out⟩
        case measure => simp [intOf]
      · go_ret
        exact ⟨nn (by rw [(HH.out 3 rfl (by omega) HX.out).out]; rfl), Qz.out⟩
    · cases hh : hasB (bJ 4) s
      all_goals have HX := aa hh
      all_goals go_wp2_with (go_at_call 16; refine (mr (bJ 4) _ _ 2 _ R4.out rfl (by omega)).mono ?_; rw [HX.out]; rintro e w' ⟨rfl, rfl⟩)
      · go_round
        case rel => exact ⟨5, by omega, by omega, rfl, HS.out 4 rfl HX.out⟩
        case measure => simp [intOf]
      · go_ret
        exact ⟨nn (by rw [(HH.out 4 rfl (by omega) HX.out).out]; rfl), Qz.out⟩
    · cases hh : hasB (bJ 5) s
      all_goals have HX := aa hh
      all_goals go_wp2_with (go_at_call 16; refine (mr (bJ 5) _ _ 3 _ R5.out rfl (by omega)).mono ?_; rw [HX.out]; rintro e w' ⟨rfl, rfl⟩)
      · go_round
        case rel => exact ⟨6, by omega, by omega, rfl, HS.out 5 rfl HX.out⟩
        case measure => simp [intOf]
      · go_ret
        exact ⟨nn (by rw [(HH.out 5 rfl (by omega) HX.out).out]; rfl), Qz.out⟩
    · go_wp2
      go_ret
      exact ⟨nn (by rw [Gs yF.out]; rfl), Qz.out⟩
def qt (c left : Nat) : Int := if c ≤ left then ((left - c : Nat) : Int) else -1
theorem qR {w : World} {g o : Nat} {v : Value} (h : w.cell? ⟨g, o, none⟩ = some v) : g < w.heap.size := by
 rcases Nat.lt_or_ge g w.heap.size with h1 | h1
 ·exact h1
 ·simp [World.cell?, Array.getElem?_eq_none h1] at h
theorem gu (w : World) (g o : Nat) (v : Value) {z : Value} (hz : w.cell? ⟨g, o, none⟩ = some z) (g' o' : Nat) : (w.setCell ⟨g, o, none⟩ v).cell? ⟨g', o', none⟩ = if g' = g ∧ o' = o then some v else w.cell? ⟨g', o', none⟩ := by
 split
 ·rename_i h; obtain ⟨rfl, rfl⟩ := h; exact World.cell?_setCell_same _ _ _ hz
 ·rename_i h; exact World.cell?_setCell_other _ _ _ _ (fun e => h (by cases e; exact ⟨rfl, rfl⟩))
section
open Go.RowKit Go.ChangeShapes Go.WideShapes
theorem Aj {a : Addr} {g off : Nat} (h : a = ⟨g, off, none⟩) (n : Nat) : a.add n = ⟨g, off + n, none⟩ := by
 subst h; unfold Addr.add; split
 ·rename_i h; subst h; rfl
 ·rfl
theorem DX {w : World} {a : Addr} {v : Value} (h : w.cell? a = some v) : a = ⟨a.block, a.off, none⟩ := by
 cases a with
 |mk g off spot =>
  cases spot with
  |none => rfl
  |some k =>
   unfold World.cell? at h
   split at h
   ·simp at h
   ·cases h
theorem Lf {w : World} {a : Addr} {v : Value} (h : w.cell? a = some v) : a.block < w.heap.size := by
 unfold World.cell? at h
 split at h
 ·rename_i c _ _ hh; exact (Array.getElem?_eq_some_iff.1 hh).1
 ·cases h
end
section
open Go.RowKit Go.ChangeShapes Go.WideShapes Go.ChangeAt
theorem Ew {a b : ByteArray} (h : a.data.toList = b.data.toList) : a = b := by
 cases a; cases b; simp only at h; congr; exact Array.ext' h
def rr {H : Type} (ss : List ByteArray) : DataW H := .agg (ss.map fun s => .lit (.string s.data.toList))
theorem wg {H : Type} {enc : TypeId × Value → H} {P : Program} {w : World} {base : Nat} {sp : Nat → Bool} {held : Bool} {fuel : Nat} {t e : TypeId} {n : Nat} {cs : List Value} {zs : List ByteArray} {p : List MemPlace}
  (ht : P.underlying t = some (.array n e)) (he : P.underlying e = some .string) (Ov : P.cellsOf e = 1) (hct : P.cellsOf t = n)
  (h : DataW.trod enc P w base sp held fuel t cs = some (rr zs, p)) : cs = zs.map fun z => Value.string z := by
 cases fuel with
 |zero => simp [DataW.trod] at h
 |succ fuel =>
  simp only [DataW.trod, ht, Ov, hct, Nat.mul_one] at h
  split at h
  ·rename_i hl
   obtain ⟨xs, hm, hx⟩ := Option.map_eq_some_iff.1 h
   have Rq : xs.map (·.1) = zs.map fun z => (DataW.lit (.string z.data.toList) : DataW H) := by
    have := congrArg Prod.fst hx
    simpa [rr] using this
   have Cs : xs.length = n := by simpa using Lib.mapM_length hm
   have hzl : zs.length = n := by
    have := congrArg List.length Rq
    simp at this
    omega
   apply List.ext_getElem?
   intro i
   by_cases hi : i < n
   ·obtain ⟨b, hb, hf⟩ := Lib.mapM_at hm i i (by simp [hi])
    obtain ⟨z, hc, rfl, _⟩ := DataW.trod_string he hf
    have h1 : cs[i]? = some (.string z) := by
     have := congrArg (·[0]?) hc
     simpa [List.getElem?_take, List.getElem?_drop] using this
    have h2 : (xs.map (·.1))[i]? = some (DataW.lit (.string z.data.toList) : DataW H) := by simp [hb]
    rw [Rq] at h2
    simp only [List.getElem?_map, Option.map_eq_some_iff, DataW.lit.injEq, Lit.string.injEq] at h2
    obtain ⟨z', hz', e'⟩ := h2
    rw [h1, List.getElem?_map, hz', ← Ew e']; rfl
   ·rw [List.getElem?_eq_none (by omega), List.getElem?_eq_none (by simp; omega)]
  ·cases h
theorem rq {H : Type} {enc : TypeId × Value → H} {P : Program} {W : World} {name : String} {zs : List ByteArray} {g : Nat} {t e : TypeId} {n : Nat} {cs : Array Value} {fuel : Nat} {p : List MemPlace} {sp : Nat → Bool} {held : Bool}
  (hg : P.globalNamed name = some g) (ht : P.underlying t = some (.array n e)) (he : P.underlying e = some .string) (Ov : P.cellsOf e = 1) (hct : P.cellsOf t = n)
  (hv : W.var? P name = some cs) (hd : DataW.trod enc P W 0 sp held fuel t cs.toList = some (rr zs, p)) (i : Nat) (hi : i < zs.length) :
  W.cell? ⟨g, i, none⟩ = some (.string (zs.getD i ⟨#[]⟩)) := by
 have hc := wg ht he Ov hct hd
 have := World.var?_cell hg hv i
 rw [this]
 have e2 : cs[i]? = cs.toList[i]? := by simp
 rw [e2, hc]
 simp [List.getD, hi]
theorem Ni {P : Program} {W : World} {name : String} {g : Nat} {cs : Array Value} (hg : P.globalNamed name = some g) (hv : W.var? P name = some cs) : g < W.heap.size := by
 unfold World.var? at hv
 rw [hg] at hv
 simp only [Option.bind_some] at hv
 cases hh : W.heap[g]? with
 |none => rw [hh] at hv; cases hv
 |some o => exact (Array.getElem?_eq_some_iff.1 hh).1
theorem qB {H : Type} {enc : TypeId × Value → H} {P : Program} (hl : laidOutB P = true) {W W' : World} (hb : Below W.heap.size W W') :
  ∀ {ts : List TypeId} {vs : List Value} {ds : List (DataW H)} {ps : List MemPlace}, (ts.all fun t => P.readableRec t && decide (t < P.types.size)) = true → (∀ x ∈ ps, x.block < W.heap.size) →
   DataW.TrodAll enc P W 0 (fun _ => true) true ts vs ds ps → DataW.TrodAll enc P W' 0 (fun b => decide (b < W.heap.size)) true ts vs ds ps
 |[], [], [], _, _, _, h => h
 |t :: ts, v :: vs, d :: ds, ps, hr, bm, h => by
  obtain ⟨p, q, h1, h2, e⟩ := h
  simp only [List.all_cons, Bool.and_eq_true, decide_eq_true_eq] at hr
  exact ⟨p, q, Below.trod hl hr.1.1 hr.1.2 h1 hb (fun x hx => bm x (by rw [e]; simp [hx])), qB hl hb (by simpa using hr.2) (fun x hx => bm x (by rw [e]; simp [hx])) h2, e⟩
 |[], [], _ :: _, _, _, _, h => h.elim
 |[], _ :: _, _, _, _, _, h => h.elim
 |_ :: _, [], _, _, _, _, h => h.elim
 |_ :: _, _ :: _, [], _, _, _, h => h.elim
theorem Gz {H : Type} {enc : TypeId × Value → H} {P : Program} {f : Func} {s : ChangeSpec} {W W' : World} {args : Array Value} {ds gs : List (DataW H)} {before : List MemPlace} {tb : TypeId} {apart : Bool}
  (hl : laidOutB P = true) (htb : P.underlying tb = some .bool) (GL : f.resultTypes = #[tb])
  (hr : (f.params.toList.all fun t => P.readableRec t && decide (t < P.types.size)) = true) (hv : varsRowed P s.vars = true)
  (Om : s.fn H (ds ++ gs) = { results := [.lit (.bool true)], args := ds, vars := gs })
  (hW : DataW.Whole enc P f.params.toList s.vars apart W args.toList ds gs before) (hb : Below W.heap.size W W') :
  s.post enc P f apart true false false W args (.bool true) W' := by
 have hW' := hW
 have bm := hW.lt
 obtain ⟨p, q, hA, hV, rfl, hfz, hnd⟩ := hW
 refine ⟨ds, gs, p ++ q, [], p, q, hW', ?_, ?_, ?_, hb.frame _, fun h => by cases h⟩
 ·rw [Om, GL]
  exact trodAll_mk1 (shut_bool htb _)
 ·rw [Om]
  exact qB hl hb hr (fun x hx => bm x (by simp [hx])) hA
 ·rw [Om]
  exact Below.trodVars hl hb hv hV
end
end Go.Proofs.YtkfbbdhidecefaaDoor
