import Derived.Test.YteaocammohcgoaaGreatDoorProg
import Derived.ProofKit
import Derived.Deep.MidRow
import Derived.WalkSpells
import Derived.WalkSmall
import Derived.OpenVars
import Derived.Lib.LaidTab
import Derived.Deep.Slices
set_option linter.unusedVariables false
set_option maxHeartbeats 16000000
set_option maxRecDepth 100000
namespace Go.Proofs.YteaocammohcgoaaGreatDoor
open Go.RowKit
theorem kk : Hid True := trivial
theorem lr {n : Nat} : n ≤ n := Nat.le_refl n
theorem bO (w : World) (o : Obj) : Below w.heap.size w (w.alloc o) := (Below.refl _ _).alloc (Nat.le_refl _) _
theorem bA {w : World} {o : Obj} : Below w.heap.size w (w.alloc o) := bO w o
theorem bn {α : Type} [BEq α] [LawfulBEq α] {a b : α} (h : a ≠ b) : (a == b) = false := beq_eq_false_iff_ne.2 h
theorem jK : Tryz.prog.follows Departure.mixedOrders = true := by kernel_rfl
theorem vj {G : Prop} (h : G := by first | exact (HB _).out | exact (HB _).out.trans (hb1.mono (by simp)) | exact (HB _).out.trans (ba.mono (by simp)) | exact ((HB _).out.trans (hb1.mono (by simp))).trans (ba.mono (by omega)) | exact ((HB _).out.trans (ba.mono (by simp))).trans (cZ.mono (by omega))) : G := h
theorem xR {G : Prop} (h : G := by first | exact (HB _).out | exact (HB _).out.trans (hb1.mono (by simp)) | exact (HB _).out.trans (ba.mono (by simp))) : G := h
variable {G : Prop}
theorem bA0 (h : G := by
 have hb : Hid (dt s = false) := by simp [Hid, dt]; omega
 go_enter Tryz.func79, Tryz.ntmps79
 go_wp2
 go_ret
 exact ⟨aw hb.out.symm, rfl⟩) : G := h
theorem bA1 (h : G := by
 go_wp2
 all_goals go_ret
 all_goals refine ⟨aw ?_, rfl⟩
 all_goals (rw [Bool.eq_iff_iff]; simp [hZ]; omega)) : G := h
theorem bA2 (h : G := by
 go_wp2
 all_goals go_ret
 all_goals refine ⟨aw ?_, rfl⟩
 all_goals (rw [Bool.eq_iff_iff]; simp [og]; omega)) : G := h
theorem bA3 (h : G := by
 intro i hi
 have : i = 0 := by have : i < 1 := hi; omega
 rcases this with rfl
 rw [← hV]; simp [go_sem, bx]) : G := h
section
open Go.RowKit Go.ChangeShapes Go.WideShapes
inductive Nd where
 |nil
 |mk (k n : Int) (s : ByteArray) (len : Nat) (kids : Nat → Nd)
namespace Nd
def kind : Nd → Int | .nil => 0 | .mk k _ _ _ _ => k
def num : Nd → Int | .nil => 0 | .mk _ n _ _ _ => n
def name : Nd → ByteArray | .nil => ⟨#[]⟩ | .mk _ _ s _ _ => s
def len : Nd → Nat | .nil => 0 | .mk _ _ _ l _ => l
def kids : Nd → Nat → Nd | .nil => fun _ => .nil | .mk _ _ _ _ f => f
end Nd
def ar (f : Nat → Nat) : Nat → Nat
 |0 => 0
 |n + 1 => ar f n + f n
theorem uh (f : Nat → Nat) {a b : Nat} (h : a ≤ b) : ar f a ≤ ar f b := by
 induction h with
 |refl => exact Nat.le_refl _
 |step _ ih => exact Nat.le_trans ih (by simp [ar])
theorem jO (f : Nat → Nat) {a b : Nat} (h : a < b) : ar f a + f a ≤ ar f b := uh f (show a + 1 ≤ b from h)
def Nd.cost : Nd → Nat | .nil => 0 | .mk _ _ s len kids => s.size + (len + ar (fun i => (kids i).cost) len)
def Nd.size : Nd → Nat | .nil => 1 | .mk _ _ _ len kids => 1 + ar (fun i => (kids i).size) len
def Nd.Fine : Nd → Prop | .nil => True | .mk k n s len kids => (-9223372036854775808 ≤ k ∧ k ≤ 9223372036854775807) ∧ (-9223372036854775808 ≤ n ∧ n ≤ 9223372036854775807) ∧ s.size ≤ 9223372036854775807 ∧ len ≤ 9223372036854775807 ∧ ∀ i, i < len → (kids i).Fine
theorem Nd.cost_eq (T : Nd) : T.cost = T.name.size + (T.len + ar (fun i => (T.kids i).cost) T.len) := by cases T <;> rfl
theorem Nd.size_eq (T : Nd) : T.size = 1 + ar (fun i => (T.kids i).size) T.len := by cases T <;> rfl
theorem Nd.cost_kid (T : Nd) {i : Nat} (h : i < T.len) : (T.kids i).cost ≤ T.cost := by
 rw [T.cost_eq]; have := jO (fun i => (T.kids i).cost) h; omega
theorem wJ {f g : Nat → Nat} {n : Nat} (h : ∀ i, i < n → f i ≤ 1 + g i) : ar f n ≤ n + ar g n := by
 induction n with
 |zero => simp [ar]
 |succ n ih => have := ih fun i hi => h i (by omega); have := h n (by omega); simp [ar]; omega
theorem Nd.size_cost (T : Nd) : T.size ≤ 1 + T.cost := by
 induction T with
 |nil => simp [Nd.size]
 |mk k n s len kids ih =>
  have := wJ (f := fun i => (kids i).size) (g := fun i => (kids i).cost) (n := len) fun i _ => ih i
  simp only [Nd.size, Nd.cost]; omega
theorem Nd.fine_kid {T : Nd} (h : T.Fine) {i : Nat} (hi : i < T.len) : (T.kids i).Fine := by cases T; exact absurd hi (Nat.not_lt_zero _); exact h.2.2.2.2 i hi
theorem Nd.fine_len {T : Nd} (h : T.Fine) : T.len ≤ 9223372036854775807 := by cases T; exact Nat.zero_le _; exact h.2.2.2.1
theorem Nd.fine_name {T : Nd} (h : T.Fine) : T.name.size ≤ 9223372036854775807 := by cases T; exact Nat.zero_le _; exact h.2.2.1
def Row (lo hi : Nat) (w : World) : Nd → Value → Prop
  | .nil, v => ∃ a cap, v = .slice a 0 cap ∧ (0 ≤ cap ∧ cap ≤ 9223372036854775807)
  | .mk _ _ _ len kids, v => ∃ a cap, v = .slice a len cap ∧ (len ≤ cap ∧ cap ≤ 9223372036854775807) ∧ (len = 0 ∨ ∃ g off, a = some ⟨g, off, none⟩ ∧ lo ≤ g ∧ g < hi ∧ ∀ i, i < len →
      ∃ u, w.cell? ⟨g, off + i * 4, none⟩ = some (.int .i64 (kids i).kind) ∧ w.cell? ⟨g, off + i * 4 + 1, none⟩ = some (.int .i64 (kids i).num) ∧
        w.cell? ⟨g, off + i * 4 + 2, none⟩ = some (.string (kids i).name) ∧ w.cell? ⟨g, off + i * 4 + 3, none⟩ = some u ∧ Row lo hi w (kids i) u)
theorem aH {lo hi : Nat} {w : World} {T : Nd} {v : Value} : Row lo hi w T v ↔ ∃ a cap, v = .slice a T.len cap ∧ (T.len ≤ cap ∧ cap ≤ 9223372036854775807) ∧ (T.len = 0 ∨ ∃ g off, a = some ⟨g, off, none⟩ ∧ lo ≤ g ∧ g < hi ∧ ∀ i, i < T.len →
      ∃ u, w.cell? ⟨g, off + i * 4, none⟩ = some (.int .i64 (T.kids i).kind) ∧ w.cell? ⟨g, off + i * 4 + 1, none⟩ = some (.int .i64 (T.kids i).num) ∧
        w.cell? ⟨g, off + i * 4 + 2, none⟩ = some (.string (T.kids i).name) ∧ w.cell? ⟨g, off + i * 4 + 3, none⟩ = some u ∧ Row lo hi w (T.kids i) u) := by
  cases T with
  | nil => exact ⟨fun ⟨a, cap, h, hc⟩ => ⟨a, cap, h, hc, .inl rfl⟩, fun ⟨a, cap, h, hc, _⟩ => ⟨a, cap, h, hc⟩⟩
  | mk => exact Iff.rfl
theorem dc {lo hi Cc fO : Nat} {w w' : World} (fy : Cc ≤ lo) (dF : hi ≤ fO) (hc : ∀ g o, lo ≤ g → g < hi → w'.cell? ⟨g, o, none⟩ = w.cell? ⟨g, o, none⟩) :
  ∀ {T : Nd} {v : Value}, Row lo hi w T v → Row Cc fO w' T v := by
 intro T
 induction T with
 |nil => exact fun h => h
 |mk k n s len kids ih =>
  rintro v ⟨a, cap, rfl, cr, h⟩
  refine ⟨a, cap, rfl, cr, ?_⟩
  rcases h with h | ⟨g, off, rfl, h1, h2, h3⟩
  ·exact .inl h
  ·refine .inr ⟨g, off, rfl, by omega, by omega, fun i hi => ?_⟩
   obtain ⟨u, e0, e1, e2, e3, hr⟩ := h3 i hi
   exact ⟨u, by rw [hc _ _ h1 h2]; exact e0, by rw [hc _ _ h1 h2]; exact e1, by rw [hc _ _ h1 h2]; exact e2, by rw [hc _ _ h1 h2]; exact e3, ih i hr⟩
theorem ah {lo hi : Nat} {w w' : World} {B : Nat} (hb : Below B w w') (hB : hi ≤ B) {T : Nd} {v : Value} (h : Row lo hi w T v) : Row lo hi w' T v :=
 dc lr lr (fun g o _ h2 => hb.cell (p := ⟨g, o, none⟩) (by show g < B; omega)) h
theorem aO {lo hi Cc fO : Nat} {w : World} {T : Nd} {v : Value} (h : Row lo hi w T v) (fy : Cc ≤ lo) (dF : hi ≤ fO) : Row Cc fO w T v := dc fy dF (fun _ _ _ _ => rfl) h
theorem aa {p : Prop} (h : p) : Hid p := h
theorem ix {k : IntKind} {a b : Int} (h : a = b) : Ending.returned (.int k a) = .returned (.int k b) := by rw [h]
def Nd.val (T : Nd) (v : Value) : Value := .agg #[.int .i64 T.kind, .int .i64 T.num, .string T.name, v]
end
abbrev nO (T : Nd) (x : Value) : Obj := .cells #[.int .i64 T.kind, .int .i64 T.num, .string T.name, x] 25
def hZ (c : Int) : Bool := decide (97 ≤ c ∧ c ≤ 122) || (decide (65 ≤ c ∧ c ≤ 90) || decide (c = 95))
def og (c : Int) : Bool := decide (48 ≤ c ∧ c ≤ 57)
theorem aw {a b : Bool} (h : a = b) : Ending.returned (.bool a) = .returned (.bool b) := by rw [h]
theorem lQ {k : IntKind} {a b : Int} (h : a = b) : Ending.returned (.int k a) = .returned (.int k b) := by rw [h]
theorem lj (c : Int) (w : World) : Calls Tryz.prog 97 #[.int .u8 c] w fun e w' => e = .returned (.bool (hZ c)) ∧ w' = w := by
 go_enter Tryz.func97, Tryz.ntmps97
 exact bA1
theorem xr (c : Int) (w : World) : Calls Tryz.prog 112 #[.int .u8 c] w fun e w' => e = .returned (.bool (og c)) ∧ w' = w := by
 go_enter Tryz.func112, Tryz.ntmps112
 exact bA2
theorem kX (c : Int) (w : World) : Calls Tryz.prog 101 #[.int .u8 c] w fun e w' => e = .returned (.bool (hZ c)) ∧ w' = w := by
 go_enter Tryz.func101, Tryz.ntmps101
 exact bA1
theorem wQ (c : Int) (w : World) : Calls Tryz.prog 102 #[.int .u8 c] w fun e w' => e = .returned (.bool (og c)) ∧ w' = w := by
 go_enter Tryz.func102, Tryz.ntmps102
 exact bA2
def eX (c : Int) : Bool := hZ c || og c
def nb (l : List UInt8) : Nat := (l.takeWhile fun b => eX b.toNat).length
theorem nN (s : ByteArray) (k : Nat) (h : k < s.size) : s.data.toList.take (k + 1) = s.data.toList.take k ++ [s[k]] := by
 rw [List.take_succ_eq_append_getElem (by simpa using h)]; rfl
theorem kT {l : List UInt8} {k : Nat} (h : ∀ b ∈ l.take k, eX b.toNat = true) (hk : k ≤ l.length) (hn : ∀ bN : k < l.length, eX l[k].toNat = false) : nb l = k := by
 induction l generalizing k with
 |nil => simpa [nb] using Eq.symm (by simpa using hk : k = 0)
 |cons a l ih =>
  cases k with
  |zero =>
   have h0 : eX a.toNat = false := hn (by simp)
   simp [nb, h0]
  |succ k =>
   have h0 : eX a.toNat = true := h a (by simp)
   have := ih (k := k) (fun b hb => h b (by simp [hb])) (by simpa using hk) (fun bN => hn (Nat.succ_lt_succ bN))
   unfold nb at this ⊢
   simp [h0, this]
theorem Ba (s : ByteArray) (w : World) (hs : s.size ≤ maxLen) :
  Calls Tryz.prog 98 #[.string s] w fun e w' => e = .returned (.int .i64 (nb s.data.toList)) ∧ w' = w := by
 unfold maxLen at hs
 go_enter Tryz.func98, Tryz.ntmps98
 go_wp2
 go_loop [3] (fun i => ∃ k : Nat, k ≤ s.size ∧ i = .int .i64 k ∧ Hid (∀ b ∈ s.data.toList.take k, eX b.toNat = true)) (fun i => s.size - (intOf i).toNat)
 case atStart => exact ⟨0, Nat.zero_le _, rfl, by simp [Hid]⟩
 case round =>
  obtain ⟨k, hk, rfl, bl⟩ := hrel
  by_cases bN : k < s.size
  ·have mi : eX s[k].toNat = false → nb s.data.toList = k := fun hb => kT bl.out (by simpa using hk) (fun _ => hb)
   have dG : eX s[k].toNat = true → ∀ b ∈ s.data.toList.take (k + 1), eX b.toNat = true := fun hb b hm => by
    rw [nN s k bN, List.mem_append] at hm
    rcases hm with hm | hm
    ·exact bl.out b hm
    ·simp at hm; rw [hm]; exact hb
   have HE : Hid (eX s[k].toNat = false → nb s.data.toList = k) := mi
   have HG : Hid (eX s[k].toNat = true → ∀ b ∈ s.data.toList.take (k + 1), eX b.toNat = true) := dG
   clear mi dG
   cases hl : hZ s[k].toNat <;> cases hd : og s[k].toNat
   all_goals
    go_wp2_with (first | (go_at_call 97; refine (lj _ _).mono ?_; rintro e w' ⟨rfl, rfl⟩) | (go_at_call 112; refine (xr _ _).mono ?_; rintro e w' ⟨rfl, rfl⟩))
   ·go_ret
    exact ⟨lQ (by rw [HE.out (by simp [eX, hl, hd])]), rfl⟩
   all_goals
    go_round
    case rel => exact ⟨k + 1, by omega, by go_num, HG.out (by simp [eX, hl, hd])⟩
    case measure => simp [intOf]; omega
  ·have mi : nb s.data.toList = k := kT bl.out (by simpa using hk) (fun h => by simp at h; omega)
   have HE : Hid (nb s.data.toList = k) := mi
   clear mi
   go_wp2
   go_ret
   exact ⟨lQ (by rw [HE.out]), rfl⟩
def dg : List ByteArray := [⟨#[102, 117, 110, 99]⟩, ⟨#[105, 102]⟩, ⟨#[101, 108, 115, 101]⟩, ⟨#[102, 111, 114]⟩, ⟨#[114, 101, 116, 117, 114, 110]⟩, ⟨#[103, 111]⟩, ⟨#[100, 101, 102, 101, 114]⟩, ⟨#[115, 101, 108, 101, 99, 116]⟩, ⟨#[99, 97, 115, 101]⟩, ⟨#[100, 101, 102, 97, 117, 108, 116]⟩, ⟨#[98, 114, 101, 97, 107]⟩, ⟨#[99, 111, 110, 116, 105, 110, 117, 101]⟩, ⟨#[99, 104, 97, 110]⟩, ⟨#[105, 110, 116]⟩, ⟨#[98, 111, 111, 108]⟩, ⟨#[116, 114, 117, 101]⟩, ⟨#[102, 97, 108, 115, 101]⟩, ⟨#[109, 97, 107, 101]⟩, ⟨#[99, 108, 111, 115, 101]⟩, ⟨#[112, 114, 105, 110, 116]⟩, ⟨#[112, 97, 110, 105, 99]⟩]
def fk (w : World) (b : Nat) (ss : List ByteArray) : Prop := ∀ i, i < ss.length → w.cell? ⟨b, i, none⟩ = some (.string (ss.getD i ⟨#[]⟩))
theorem wK (w : World) (ss : List ByteArray) (t : TypeId) : fk (w.alloc (.cells (ss.map Value.string).toArray t)) w.heap.size ss := by
 intro i hi
 have := World.cell?_alloc_new w (ss.map Value.string).toArray t i
 rw [this]
 simp [List.getD, hi]
theorem l6 (a b : ByteArray) : (a.toList == b.toList) = decide (a = b) := by
 rw [ByteArray.toList_eq, ByteArray.toList_eq, Bool.eq_iff_iff]
 simp only [beq_iff_eq, decide_eq_true_eq]
 constructor
 ·intro h; cases a; cases b; simp only at h; congr; exact Array.ext' h
 ·intro h; rw [h]
theorem Ea (w : World) : Calls Tryz.prog 81 #[] w fun e w' => e = .returned (.slice (some ⟨w.heap.size, 0, none⟩) 21 21) ∧ Below w.heap.size w w' ∧ fk w' w.heap.size dg ∧ w.heap.size < w'.heap.size := by
 go_enter Tryz.func81, Tryz.ntmps81
 go_wp2
 go_ret
 refine ⟨rfl, bA, ?_, by simp⟩
 exact wK w dg 9
def hasB (ss : List ByteArray) (t : ByteArray) : Bool := ss.any fun s => decide (s = t)
theorem jU (ss : List ByteArray) (t : ByteArray) : hasB ss t = true ↔ t ∈ ss := by simp [hasB]
theorem mv {ss : List ByteArray} {t : ByteArray} {k : Nat} (hk : k < ss.length) (h : t ∉ ss.take k) (hn : (ss[k].toList == t.toList) = false) : t ∉ ss.take (k + 1) := by
 rw [List.take_succ_eq_append_getElem hk]
 rw [l6, decide_eq_false_iff_not] at hn
 intro hm
 rcases List.mem_append.1 hm with hm | hm
 ·exact h hm
 ·exact hn (List.mem_singleton.1 hm).symm
theorem nB {ss : List ByteArray} {t : ByteArray} {k : Nat} (hk : k < ss.length) (hn : (ss[k].toList == t.toList) = true) : true = hasB ss t := by
 rw [l6, decide_eq_true_eq] at hn
 rw [← hn]; exact ((jU _ _).2 (List.getElem_mem hk)).symm
theorem nC {ss : List ByteArray} {t : ByteArray} {k : Nat} (hk : ss.length ≤ k) (h : t ∉ ss.take k) : false = hasB ss t := by
 rw [List.take_of_length_le hk] at h
 exact (Bool.eq_false_iff.2 fun e => h ((jU _ _).1 e)).symm
theorem lZ (ss : List ByteArray) (t : ByteArray) (b n : Nat) (w : World) (hr : fk w b ss) (hn : ss.length = n) (hl : n < 1000) :
  Calls Tryz.prog 80 #[.slice (some ⟨b, 0, none⟩) n n, .string t] w fun e w' => e = .returned (.bool (hasB ss t)) ∧ w' = w := by
 subst hn
 go_enter Tryz.func80, Tryz.ntmps80
 go_wp2
 go_loop [5] (fun i => ∃ k : Nat, k ≤ ss.length ∧ i = .int .i64 k ∧ Hid (t ∉ ss.take k)) (fun i => ss.length - (intOf i).toNat)
 case atStart => exact ⟨0, Nat.zero_le _, rfl, by simp [Hid]⟩
 case round =>
  obtain ⟨k, hk, rfl, bl⟩ := hrel
  by_cases bN : k < ss.length
  ·have hc := hr k bN
   clear hr
   go_wp2
   ·go_ret
    exact ⟨aw (nB bN ‹_›), rfl⟩
   ·exact ⟨⟨k + 1, by omega, by go_num, mv bN bl.out ‹_›⟩, by simp [intOf]; omega⟩
  ·clear hr
   go_wp2
   go_ret
   exact ⟨aw (nC (by omega) bl.out), rfl⟩
theorem pH {P : Program} {t e : TypeId} {n : Nat} (w : World) (ss : List ByteArray) (k : Nat) (hu : P.underlying t = some (.array n e)) (he : P.underlying e = some .string) (hi : (P.info? e).map (·.size) = some 1) (hk : k < n) (hl : ss.length = n) :
  (Instr.index t (.agg (ss.map Value.string).toArray) (.int .i64 k)).run P w = .ok (.string (ss.getD k ⟨#[]⟩)) w := by
 have hagg : (isAgg e).run P w = .ok false w := by
  unfold isAgg
  rw [Sem.run_bind, run_underlying he w]
  rfl
 cases hq : P.info? e with
 |none => simp [hq] at hi
 |some i =>
  have hs : i.size = 1 := by simpa [hq] using hi
  have h2 : k < ss.length := by omega
  simp [Instr.index, asIntOf, Sem.run_bind, run_underlying hu w, part, hagg, sizeOf, typeInfo, hq, hs, h2, List.getD]
  omega
theorem wV {w : World} {b : Nat} {ss : List ByteArray} (h : fk w b ss) : w.rangeAt b 0 (ss.map Value.string) := by
 intro j v hv
 rw [List.getElem?_map, Option.map_eq_some_iff] at hv
 obtain ⟨s, hs, rfl⟩ := hv
 obtain ⟨bN, hs⟩ := List.getElem?_eq_some_iff.1 hs
 have := h j bN
 rw [Nat.zero_add, this]
 simp [List.getD, bN, hs]
theorem AH (t : ByteArray) (w : World) (hr : fk w 3 dg) :
  Calls Tryz.prog 99 #[.string t] w fun e w' => e = .returned (.bool (hasB dg t)) ∧ w' = w := by
 have S9 : Hid (w.rangeAt 3 0 (dg.map Value.string)) := wV hr
 have b8 : (Tryz.prog.info? 146).map (·.size) = some (dg.map Value.string).length := by kernel_rfl
 have Sr : (Tryz.prog.info? 9).map (·.size) = some 1 := by kernel_rfl
 have HZ : Hid ((Tryz.prog.info? 146).map (·.size) = some (dg.map Value.string).length) := b8
 have hix : Hid (∀ k : Nat, k < 21 → (Instr.index 146 (.agg (dg.map Value.string).toArray) (.int .i64 k)).run Tryz.prog w = .ok (.string (dg.getD k ⟨#[]⟩)) w) :=
  fun k hk => pH w dg k Tryz.underlying146 Tryz.underlying9 Sr hk rfl
 clear hr b8 Sr
 generalize hkw : dg = ss at *
 have hlen : Hid (ss.length = 21) := by rw [← hkw]; rfl
 clear hkw
 go_enter Tryz.func99, Tryz.ntmps99
 go_wp2_with (refine wpList_load_mid rfl 146 _ rfl 3 0 rfl _ _ S9.out Tryz.underlying146 rfl HZ.out ?_)
 go_loop [6] (fun i => ∃ k : Nat, k ≤ 21 ∧ i = .int .i64 k ∧ Hid (t ∉ ss.take k)) (fun i => 21 - (intOf i).toNat)
 case atStart => exact ⟨0, Nat.zero_le _, rfl, by simp [Hid]⟩
 case round =>
  obtain ⟨k, hk, rfl, bl⟩ := hrel
  by_cases bN : k < 21
  ·have hi := hix.out k bN
   have Cg : k < ss.length := by rw [hlen.out]; exact bN
   go_wp2
   ·go_ret
    exact ⟨aw (nB Cg ‹_›), rfl⟩
   ·exact ⟨⟨k + 1, by omega, by go_num, mv Cg bl.out ‹_›⟩, by simp [intOf]; omega⟩
  ·go_wp2
   go_ret
   exact ⟨aw (nC (by rw [hlen.out]; omega) bl.out), rfl⟩
def dt (s : ByteArray) : Bool := decide (1 ≤ s.size ∧ s.size ≤ 40) && (hZ (s.data.toList.headD 0).toNat && decide (nb s.data.toList = s.size))
theorem zo (s : ByteArray) (h : 0 < s.size) : s.data.toList.headD 0 = s[0] := by
 have : 0 < s.data.toList.length := by simpa using h
 cases hl : s.data.toList with
 |nil => simp [hl] at this
 |cons a l =>
  have : s.data.toList[0]'this = a := by simp [hl]
  show a = s.data[0]
  rw [← this]; rfl
theorem tX (s : ByteArray) (w : World) (hs : s.size ≤ maxLen) :
  Calls Tryz.prog 79 #[.string s] w fun e w' => e = .returned (.bool (dt s)) ∧ w' = w := by
 unfold maxLen at hs
 by_cases h1 : s.size < 1
 ·exact bA0
 by_cases h2 : 40 < s.size
 ·exact bA0
 have h0 : 0 < s.size := by omega
 have hh := zo s h0
 cases hl : hZ s[0].toNat
 ·have hb : Hid (dt s = false) := by unfold Hid dt; rw [hh, hl]; simp
  clear hh
  go_enter Tryz.func79, Tryz.ntmps79
  go_wp2_with (go_at_call 101; refine (kX _ _).mono ?_; rintro e w' ⟨rfl, rfl⟩)
  go_ret
  exact ⟨aw hb.out.symm, rfl⟩
 ·have hb : Hid (dt s = decide (nb s.data.toList = s.size)) := by
   have : 1 ≤ s.size ∧ s.size ≤ 40 := by omega
   unfold Hid dt; rw [hh, hl]; simp [this]
  have vZ : Hid (∀ b ∈ s.data.toList.take 1, eX b.toNat = true) := by
   intro b hm
   rw [nN s 0 h0] at hm
   simp at hm
   rw [hm]; simp [eX, hl]
  clear hh
  go_enter Tryz.func79, Tryz.ntmps79
  go_wp2_with (go_at_call 101; refine (kX _ _).mono ?_; rintro e w' ⟨rfl, rfl⟩)
  clear hl
  go_loop [3] (fun i => ∃ k : Nat, k ≤ s.size ∧ i = .int .i64 k ∧ Hid (∀ b ∈ s.data.toList.take k, eX b.toNat = true)) (fun i => s.size - (intOf i).toNat)
  case atStart => exact ⟨1, by omega, rfl, vZ⟩
  case round =>
   obtain ⟨k, hk, rfl, bl⟩ := hrel
   clear vZ
   by_cases bN : k < s.size
   ·have HE : Hid (eX s[k].toNat = false → dt s = false) := fun hbb => by
     rw [hb.out, kT bl.out (by simpa using hk) (fun _ => hbb)]
     simp; omega
    have HG : Hid (eX s[k].toNat = true → ∀ b ∈ s.data.toList.take (k + 1), eX b.toNat = true) := fun hbb b hm => by
     rw [nN s k bN, List.mem_append] at hm
     rcases hm with hm | hm
     ·exact bl.out b hm
     ·simp at hm; rw [hm]; exact hbb
    cases hl : hZ s[k].toNat <;> cases hd : og s[k].toNat
    all_goals
     go_wp2_with (first | (go_at_call 101; refine (kX _ _).mono ?_; rintro e w' ⟨rfl, rfl⟩) | (go_at_call 102; refine (wQ _ _).mono ?_; rintro e w' ⟨rfl, rfl⟩))
    ·go_ret
     exact ⟨aw (HE.out (by simp [eX, hl, hd])).symm, rfl⟩
    all_goals
     go_round
     case rel => exact ⟨k + 1, by omega, by go_num, HG.out (by simp [eX, hl, hd])⟩
     case measure => simp [intOf]; omega
   ·have mi : Hid (dt s = true) := by
     unfold Hid
     rw [hb.out, kT bl.out (by simpa using hk) (fun h => by simp at h; omega)]
     simp; omega
    go_wp2
    go_ret
    exact ⟨aw mi.out.symm, rfl⟩
def aR (s : ByteArray) : Bool := dt s && !hasB dg s
theorem gW (s : ByteArray) (w : World) (hs : s.size ≤ maxLen) :
  Calls Tryz.prog 59 #[.string s] w fun e w' => e = .returned (.bool (aR s)) ∧ Below w.heap.size w w' := by
 cases hb : dt s
 ·go_enter Tryz.func59, Tryz.ntmps59
  go_wp2_with (go_at_call 79; refine (tX _ _ hs).mono ?_; rintro e w' ⟨rfl, rfl⟩)
  go_ret
  exact ⟨aw (by simp [aR, hb]), Below.refl _ _⟩
 ·go_enter Tryz.func59, Tryz.ntmps59
  go_wp2_with (first | (go_at_call 79; refine (tX _ _ hs).mono ?_; rintro e w' ⟨rfl, rfl⟩) | (go_at_call 81; refine (Ea _).mono ?_; rintro e w1 ⟨rfl, lu, dJ, b8⟩; have HR : Hid (fk w1 w'.heap.size dg) := dJ; clear dJ) | (go_at_call 80; refine (lZ dg _ _ 21 _ HR.out rfl (by omega)).mono ?_; rintro e w2 ⟨rfl, rfl⟩))
  go_ret
  exact ⟨aw (by simp [aR, hb]), lu⟩
def bx : Nat → List ByteArray
 |1 => [⟨#[124, 124]⟩]
 |2 => [⟨#[38, 38]⟩]
 |3 => [⟨#[61, 61]⟩, ⟨#[33, 61]⟩, ⟨#[60]⟩, ⟨#[60, 61]⟩, ⟨#[62]⟩, ⟨#[62, 61]⟩]
 |4 => [⟨#[43]⟩, ⟨#[45]⟩]
 |5 => [⟨#[42]⟩, ⟨#[47]⟩, ⟨#[37]⟩]
 |_ => []
def iU (s : ByteArray) : Nat := if hasB (bx 1) s then 1 else if hasB (bx 2) s then 2 else if hasB (bx 3) s then 3 else if hasB (bx 4) s then 4 else if hasB (bx 5) s then 5 else 0
def aG (p : Nat → Bool) : Nat → Bool
 |0 => true
 |n + 1 => aG p n && p n
theorem dy {p : Nat → Bool} : ∀ {n : Nat}, aG p n = true ↔ ∀ i, i < n → p i = true
 |0 => by simp [aG]
 |n + 1 => by
  simp only [aG, Bool.and_eq_true, dy (n := n)]
  constructor
  ·rintro ⟨h, k⟩ i hi
   by_cases e : i = n
   ·subst e; exact k
   ·exact h i (by omega)
  ·intro h; exact ⟨fun i hi => h i (by omega), h n (by omega)⟩
theorem gm {p : Nat → Bool} {n i : Nat} (hi : i < n) (h : p i = false) : aG p n = false := by
 rw [Bool.eq_false_iff]; intro e; rw [dy.1 e i hi] at h; cases h
theorem eo {p : Nat → Bool} {n : Nat} (h : ∀ i, i < n → p i = true) : aG p n = true := dy.2 h
def cq (e st : Nat → Bool) (kk : Nat → Int) (c : Nat) (i : Nat) : Bool :=
 if c = 101 then e i else if c = 99 then decide (kk i = 25) && e i else if c = 98 then decide (kk i = 4) && st i else (decide (kk i = 4) || decide (kk i = 10)) && st i
def aK (e st : Nat → Bool) (kk : Nat → Int) (len : Nat) (b5 : ByteArray) : Bool :=
 decide (len = b5.size) && aG (fun i => cq e st kk (b5.data.toList.getD i 0).toNat i) b5.size
def ao (s : ByteArray) : Bool := s.toList.isEmpty
def cH (k n : Int) (s : ByteArray) (len : Nat) (e st : Nat → Bool) (kk : Nat → Int) : Bool :=
 if k = 22 then ao s && (decide (0 ≤ n) && decide (n ≤ 999999999999999999) && decide (len = 0))
 else if k = 23 then ao s && ((decide (n = 0) || decide (n = 1)) && decide (len = 0))
 else if k = 24 then decide (n = 0) && (aR s && decide (len = 0))
 else if k = 25 then decide (n = 0) && (aR s && aG e len)
 else if k = 26 then ao s && decide (n = 0) && (decide (len < 2) && aG e len)
 else if k = 27 then decide (n = 0) && ((s.toList == [45] || s.toList == [33]) && aK e st kk len ⟨#[101]⟩)
 else if k = 28 then decide (n = 0) && (decide (0 < iU s) && aK e st kk len ⟨#[101, 101]⟩)
 else if k = 29 then ao s && decide (n = 0) && aK e st kk len ⟨#[101]⟩
 else false
def bd (k n : Int) (s : ByteArray) (len : Nat) (e st cs : Nat → Bool) (kk : Nat → Int) : Bool :=
 if k = 4 then ao s && decide (n = 0) && aG st len
 else if k = 5 ∨ k = 6 then !ao s && aR s && decide (n = 0) && aK e st kk len ⟨#[101]⟩
 else if k = 7 then !ao s && aR s && ((decide (n = 1) || decide (n = -1)) && decide (len = 0))
 else if k = 8 then ao s && decide (n = 0) && aK e st kk len ⟨#[101, 101]⟩
 else if k = 9 then ao s && decide (n = 0) && (aK e st kk len ⟨#[101]⟩ && (decide (kk 0 = 25) || decide (kk 0 = 29)))
 else if k = 10 then ao s && decide (n = 0) && (aK e st kk len ⟨#[101, 98]⟩ || aK e st kk len ⟨#[101, 98, 105]⟩)
 else if k = 11 then ao s && decide (n = 0) && (aK e st kk len ⟨#[98]⟩ || aK e st kk len ⟨#[101, 98]⟩)
 else if k = 12 then ao s && decide (n = 0) && (decide (len = 0) || aK e st kk len ⟨#[101]⟩)
 else if k = 13 ∨ k = 14 then ao s && decide (n = 0) && aK e st kk len ⟨#[99]⟩
 else if k = 15 then ao s && decide (n = 0) && aG cs len
 else if k = 17 ∨ k = 18 then ao s && decide (n = 0) && decide (len = 0)
 else if k = 19 ∨ k = 20 ∨ k = 21 then ao s && decide (n = 0) && aK e st kk len ⟨#[101]⟩
 else false
def iH (k n : Int) (s : ByteArray) (len : Nat) (e st : Nat → Bool) (kk : Nat → Int) : Bool :=
 if k = 16 then (ao s || (decide (n = 1) && aR s)) &&
  (if n = 0 then aK e st kk len ⟨#[98]⟩ else if n = 1 then aK e st kk len ⟨#[101, 98]⟩ else if n = 2 then aK e st kk len ⟨#[101, 101, 98]⟩ else false)
 else false
def xg : Nd → Bool × Bool × Bool
  | .nil => (false, false, false)
  | .mk k n s len kids =>
    (cH k n s len (fun i => (xg (kids i)).1) (fun i => (xg (kids i)).2.1) (fun i => (kids i).kind),
     bd k n s len (fun i => (xg (kids i)).1) (fun i => (xg (kids i)).2.1) (fun i => (xg (kids i)).2.2) (fun i => (kids i).kind),
     iH k n s len (fun i => (xg (kids i)).1) (fun i => (xg (kids i)).2.1) (fun i => (kids i).kind))
def Nd.eOk (T : Nd) : Bool := (xg T).1
def Nd.sOk (T : Nd) : Bool := (xg T).2.1
def Nd.cOk (T : Nd) : Bool := (xg T).2.2
def Nd.kk (T : Nd) (i : Nat) : Int := (T.kids i).kind
theorem de (T : Nd) : T.eOk = cH T.kind T.num T.name T.len (fun i => (T.kids i).eOk) (fun i => (T.kids i).sOk) T.kk := by cases T <;> rfl
theorem bK (T : Nd) : T.sOk = bd T.kind T.num T.name T.len (fun i => (T.kids i).eOk) (fun i => (T.kids i).sOk) (fun i => (T.kids i).cOk) T.kk := by cases T <;> rfl
theorem mR (T : Nd) : T.cOk = iH T.kind T.num T.name T.len (fun i => (T.kids i).eOk) (fun i => (T.kids i).sOk) T.kk := by cases T <;> rfl
def fK (T : Nd) : Bool := decide (T.kind = 3) && aR T.name && (decide (1 ≤ T.num) && decide (T.num ≤ 3)) && decide (T.len = 0)
def dd (T : Nd) : Bool := decide (T.kind = 2) && aR T.name && (decide (0 ≤ T.num) && decide (T.num ≤ 3)) && decide (1 ≤ T.len) &&
 (aG (fun i => fK (T.kids i)) (T.len - 1) && (decide ((T.kids (T.len - 1)).kind = 4) && (T.kids (T.len - 1)).sOk))
def dv (T : Nd) : Bool := decide (T.size ≤ 600) && decide (T.kind = 1) && decide (T.num = 0) && ao T.name && aG (fun i => dd (T.kids i)) T.len
theorem Ia {s : ByteArray} {k : Nat} (h1 : 1 ≤ k) (h5 : k ≤ 5) (hb : ∀ j, 1 ≤ j → j < k → hasB (bx j) s = false) (h : hasB (bx k) s = true) : iU s = k := by
 have : k = 1 ∨ k = 2 ∨ k = 3 ∨ k = 4 ∨ k = 5 := by omega
 unfold iU
 rcases this with rfl | rfl | rfl | rfl | rfl
 ·simp [h]
 ·simp [h, hb 1 (by omega) (by omega)]
 ·simp [h, hb 1 (by omega) (by omega), hb 2 (by omega) (by omega)]
 ·simp [h, hb 1 (by omega) (by omega), hb 2 (by omega) (by omega), hb 3 (by omega) (by omega)]
 ·simp [h, hb 1 (by omega) (by omega), hb 2 (by omega) (by omega), hb 3 (by omega) (by omega), hb 4 (by omega) (by omega)]
theorem DS {s : ByteArray} (hb : ∀ j, 1 ≤ j → j < 6 → hasB (bx j) s = false) : iU s = 0 := by
 unfold iU
 simp [hb 1 (by omega) (by omega), hb 2 (by omega) (by omega), hb 3 (by omega) (by omega), hb 4 (by omega) (by omega), hb 5 (by omega) (by omega)]
theorem sV (s : ByteArray) (w : World) : Calls Tryz.prog 114 #[.string s] w fun e w' => e = .returned (.int .i64 (iU s : Int)) ∧ Below w.heap.size w w' := by
  go_enter Tryz.func114, Tryz.ntmps114
  go_wp2
  generalize hV : (((((((w.alloc (Obj.cells #[] 9)).alloc (Obj.cells #[Value.string { data := #[124, 124] }] 9)).alloc (Obj.cells #[Value.string { data := #[38, 38] }] 9)).alloc (Obj.cells #[Value.string { data := #[61, 61] }, Value.string { data := #[33, 61] }, Value.string { data := #[60] }, Value.string { data := #[60, 61] }, Value.string { data := #[62] }, Value.string { data := #[62, 61] }] 9)).alloc (Obj.cells #[Value.string { data := #[43] }, Value.string { data := #[45] }] 9)).alloc (Obj.cells #[Value.string { data := #[42] }, Value.string { data := #[47] }, Value.string { data := #[37] }] 9)).alloc
      (Obj.cells #[Value.slice (some { block := w.heap.size, off := 0 }) 0 0, Value.slice (some { block := w.heap.size + 1, off := 0 }) 1 1, Value.slice (some { block := w.heap.size + 1 + 1, off := 0 }) 1 1, Value.slice (some { block := w.heap.size + 1 + 1 + 1, off := 0 }) 6 6, Value.slice (some { block := w.heap.size + 1 + 1 + 1 + 1, off := 0 }) 2 2, Value.slice (some { block := w.heap.size + 1 + 1 + 1 + 1 + 1, off := 0 }) 3 3] 32)) = V
  have QK : Hid (Below w.heap.size w V) := by
    unfold Hid
    rw [← hV]
    exact (((((((Below.refl _ w).alloc lr _).alloc (by simp) _).alloc (by simp; omega) _).alloc (by simp; omega) _).alloc (by simp; omega) _).alloc (by simp; omega) _).alloc (by simp; omega) _
  have c1 : V.cell? ⟨w.heap.size + 1 + 1 + 1 + 1 + 1 + 1, 1, none⟩ = some (.slice (some ⟨w.heap.size + 1, 0, none⟩) 1 1) := by rw [← hV]; simp [go_sem]
  have c2 : V.cell? ⟨w.heap.size + 1 + 1 + 1 + 1 + 1 + 1, 2, none⟩ = some (.slice (some ⟨w.heap.size + 1 + 1, 0, none⟩) 1 1) := by rw [← hV]; simp [go_sem]
  have c3 : V.cell? ⟨w.heap.size + 1 + 1 + 1 + 1 + 1 + 1, 3, none⟩ = some (.slice (some ⟨w.heap.size + 1 + 1 + 1, 0, none⟩) 6 6) := by rw [← hV]; simp [go_sem]
  have c4 : V.cell? ⟨w.heap.size + 1 + 1 + 1 + 1 + 1 + 1, 4, none⟩ = some (.slice (some ⟨w.heap.size + 1 + 1 + 1 + 1, 0, none⟩) 2 2) := by rw [← hV]; simp [go_sem]
  have c5 : V.cell? ⟨w.heap.size + 1 + 1 + 1 + 1 + 1 + 1, 5, none⟩ = some (.slice (some ⟨w.heap.size + 1 + 1 + 1 + 1 + 1, 0, none⟩) 3 3) := by rw [← hV]; simp [go_sem]
  have R1 : Hid (fk V (w.heap.size + 1) (bx 1)) := by
    exact bA3
  have R2 : Hid (fk V (w.heap.size + 1 + 1) (bx 2)) := by
    exact bA3
  have R3 : Hid (fk V (w.heap.size + 1 + 1 + 1) (bx 3)) := by
    intro i hi
    have : i = 0 ∨ i = 1 ∨ i = 2 ∨ i = 3 ∨ i = 4 ∨ i = 5 := by have : i < 6 := hi; omega
    rw [← hV]
    rcases this with rfl | rfl | rfl | rfl | rfl | rfl <;> simp [go_sem, bx]
  have R4 : Hid (fk V (w.heap.size + 1 + 1 + 1 + 1) (bx 4)) := by
    intro i hi
    have : i = 0 ∨ i = 1 := by have : i < 2 := hi; omega
    rw [← hV]
    rcases this with rfl | rfl <;> simp [go_sem, bx]
  have R5 : Hid (fk V (w.heap.size + 1 + 1 + 1 + 1 + 1) (bx 5)) := by
    intro i hi
    have : i = 0 ∨ i = 1 ∨ i = 2 := by have : i < 3 := hi; omega
    rw [← hV]
    rcases this with rfl | rfl | rfl <;> simp [go_sem, bx]
  clear hV
  go_loop [4] (fun i => ∃ k : Nat, 1 ≤ k ∧ k ≤ 6 ∧ i = .int .i64 k ∧ Hid (∀ j, 1 ≤ j → j < k → hasB (bx j) s = false)) (fun i => 6 - (intOf i).toNat)
  case atStart => exact ⟨1, by omega, by omega, rfl, fun j h1 h2 => by omega⟩
  case round =>
    obtain ⟨k, h1, h6, rfl, pV⟩ := hrel
    have HS : ∀ k', k' = k → hasB (bx k') s = false → Hid (∀ j, 1 ≤ j → j < k' + 1 → hasB (bx j) s = false) := fun k' e h j h1 h2 => by
      by_cases hj : j = k'
      · rw [hj]; exact h
      · exact pV.out j h1 (by omega)
    have HH : ∀ k', k' = k → k' ≤ 5 → hasB (bx k') s = true → Hid (iU s = k') := fun k' e h5 h => by
      subst e; exact Ia h1 h5 pV.out h
    have HS := aa HS
    have HH := aa HH
    have hk : k = 1 ∨ k = 2 ∨ k = 3 ∨ k = 4 ∨ k = 5 ∨ k = 6 := by omega
    rcases hk with rfl | rfl | rfl | rfl | rfl | rfl
    · cases hh : hasB (bx 1) s
      all_goals have HX := aa hh
      all_goals go_wp2_with (go_at_call 80; refine (lZ (bx 1) _ _ 1 _ R1.out rfl (by omega)).mono ?_; rw [HX.out]; rintro e w' ⟨rfl, rfl⟩)
      · go_round
        case rel => exact ⟨2, by omega, by omega, rfl, HS.out 1 rfl HX.out⟩
        case measure => simp [intOf]
      · go_ret
        exact ⟨ix (by rw [(HH.out 1 rfl (by omega) HX.out).out]; rfl), QK.out⟩
    · cases hh : hasB (bx 2) s
      all_goals have HX := aa hh
      all_goals go_wp2_with (go_at_call 80; refine (lZ (bx 2) _ _ 1 _ R2.out rfl (by omega)).mono ?_; rw [HX.out]; rintro e w' ⟨rfl, rfl⟩)
      · go_round
        case rel => exact ⟨3, by omega, by omega, rfl, HS.out 2 rfl HX.out⟩
        case measure => simp [intOf]
      · go_ret
        exact ⟨ix (by rw [(HH.out 2 rfl (by omega) HX.out).out]; rfl), QK.out⟩
    · cases hh : hasB (bx 3) s
      all_goals have HX := aa hh
      all_goals go_wp2_with (go_at_call 80; refine (lZ (bx 3) _ _ 6 _ R3.out rfl (by omega)).mono ?_; rw [HX.out]; rintro e w' ⟨rfl, rfl⟩)
      · go_round
        case rel => exact ⟨4, by omega, by omega, rfl, HS.out 3 rfl HX.out⟩
        case measure => simp [intOf]
      · go_ret
        exact ⟨ix (by rw [(HH.out 3 rfl (by omega) HX.out).out]; rfl), QK.out⟩
    · cases hh : hasB (bx 4) s
      all_goals have HX := aa hh
      all_goals go_wp2_with (go_at_call 80; refine (lZ (bx 4) _ _ 2 _ R4.out rfl (by omega)).mono ?_; rw [HX.out]; rintro e w' ⟨rfl, rfl⟩)
      · go_round
        case rel => exact ⟨5, by omega, by omega, rfl, HS.out 4 rfl HX.out⟩
        case measure => simp [intOf]
      · go_ret
        exact ⟨ix (by rw [(HH.out 4 rfl (by omega) HX.out).out]; rfl), QK.out⟩
    · cases hh : hasB (bx 5) s
      all_goals have HX := aa hh
      all_goals go_wp2_with (go_at_call 80; refine (lZ (bx 5) _ _ 3 _ R5.out rfl (by omega)).mono ?_; rw [HX.out]; rintro e w' ⟨rfl, rfl⟩)
      · go_round
        case rel => exact ⟨6, by omega, by omega, rfl, HS.out 5 rfl HX.out⟩
        case measure => simp [intOf]
      · go_ret
        exact ⟨ix (by rw [(HH.out 5 rfl (by omega) HX.out).out]; rfl), QK.out⟩
    · go_wp2
      go_ret
      exact ⟨ix (by rw [DS pV.out]; rfl), QK.out⟩
def Nd.pre : Nd → Nat → List (Nd × Nat)
 |.nil, d => [(.nil, d)]
 |.mk k n s len kids, d => (.mk k n s len kids, d) :: (List.range len).flatMap fun i => (kids i).pre (d + 1)
def mg (D : Nd) (d : Nat) : List (Nd × Nat) := (List.range D.len).flatMap fun i => (D.kids i).pre d
def nf (D : Nd) : Nd := .mk 0 0 ⟨#[]⟩ (D.len - 1) (fun i => D.kids (i + 1))
def H7 (T : Nd) : Nd := .mk 0 0 ⟨#[]⟩ 1 (fun _ => T)
theorem nS (T : Nd) (d : Nat) : T.pre d = (T, d) :: mg T (d + 1) := by cases T <;> rfl
theorem rJ {D : Nd} (h : 0 < D.len) (d : Nat) : mg D d = (D.kids 0).pre d ++ mg (nf D) d := by
 unfold mg
 obtain ⟨m, hm⟩ : ∃ m, D.len = m + 1 := ⟨D.len - 1, by omega⟩
 have : (nf D).len = m := by show D.len - 1 = m; omega
 rw [this, hm, List.range_succ_eq_map, List.flatMap_cons, List.flatMap_map]
 rfl
theorem rI {D : Nd} (h : D.len = 0) (d : Nat) : mg D d = [] := by unfold mg; rw [h]; rfl
theorem uy (T : Nd) (d : Nat) : mg (H7 T) d = T.pre d := by
 show (List.range 1).flatMap _ = _
 simp [List.range_succ, H7, Nd.kids]
theorem oI (f : Nat → List (Nd × Nat)) : ∀ n, ((List.range n).flatMap f).length = ar (fun i => (f i).length) n
 |0 => rfl
 |n + 1 => by rw [List.range_succ, List.flatMap_append, List.length_append, oI f n]; simp [ar]
theorem ov {f g : Nat → Nat} : ∀ {n : Nat}, (∀ i, i < n → f i = g i) → ar f n = ar g n
 |0, _ => rfl
 |n + 1, h => by simp only [ar]; rw [ov fun i hi => h i (by omega), h n (by omega)]
theorem o7 (T : Nd) : ∀ d, (T.pre d).length = T.size := by
 induction T with
 |nil => intro d; rfl
 |mk k n s len kids ih =>
  intro d
  simp only [Nd.pre, List.length_cons, oI, Nd.size]
  rw [ov fun i _ => ih i (d + 1)]; omega
theorem size_pos (T : Nd) : 0 < T.size := by rw [T.size_eq]; omega
theorem Dp (T : Nd) {i : Nat} (h : i < T.len) : (T.kids i).size < T.size := by
 rw [T.size_eq]; have := jO (fun i => (T.kids i).size) h; omega
theorem ux (T : Nd) : ∀ d p, p ∈ T.pre d → p.2 < d + T.size := by
 induction T with
 |nil => intro d p hp; simp [Nd.pre] at hp; subst hp; simp [Nd.size]
 |mk k n s len kids ih =>
  intro d p hp
  rw [nS] at hp
  rcases List.mem_cons.1 hp with rfl | hp
  ·have := size_pos (.mk k n s len kids); simp; omega
  ·obtain ⟨i, hi, hp⟩ := List.mem_flatMap.1 hp
   have h1 : i < len := List.mem_range.1 hi
   have h2 := ih i (d + 1) p hp
   have h3 := Dp (.mk k n s len kids) (i := i) h1
   have h4 : ((Nd.mk k n s len kids).kids i).size = (kids i).size := rfl
   omega
structure hH where
 D : Nd
 d : Nat
 v : Value
def gB (S : List hH) : List (Nd × Nat) := S.flatMap fun e => mg e.D e.d
def lx (S : List hH) : List Value := S.reverse.flatMap fun e => [e.v, .int .i64 (e.d : Int)]
theorem hG (e : hH) (S : List hH) : lx (e :: S) = lx S ++ [e.v, .int .i64 (e.d : Int)] := by simp [lx]
theorem so (S : List hH) : (lx S).length = S.length * 2 := by
 induction S with
 |nil => rfl
 |cons e S ih => rw [hG]; simp [ih]; omega
theorem lR (e : hH) (S : List hH) : gB (e :: S) = mg e.D e.d ++ gB S := by simp [gB]
theorem Mg (S : List hH) (h : ∀ e ∈ S, 0 < e.D.len) : S.length ≤ (gB S).length := by
 induction S with
 |nil => simp
 |cons e S ih =>
  have := ih fun x hx => h x (List.mem_cons_of_mem _ hx)
  have h0 := h e (List.mem_cons_self ..)
  rw [lR, rJ h0, nS]
  simp; omega
def nj (e : hH) (K : Nd) (u : Value) (S : List hH) : List hH := if 0 < K.len then ⟨K, e.d + 1, u⟩ :: S else S
def ni (e : hH) (t : Value) (S : List hH) : List hH := if 1 < e.D.len then ⟨nf e.D, e.d, t⟩ :: S else S
theorem nh (e : hH) (S : List hH) (u t : Value) (h : 0 < e.D.len) : gB (e :: S) = (e.D.kids 0, e.d) :: gB (nj e (e.D.kids 0) u (ni e t S)) := by
 have hT : gB (ni e t S) = mg (nf e.D) e.d ++ gB S := by
  unfold ni
  split
  ·rw [lR]
  ·rw [rI (by show e.D.len - 1 = 0; omega)]; rfl
 have hK : gB (nj e (e.D.kids 0) u (ni e t S)) = mg (e.D.kids 0) (e.d + 1) ++ gB (ni e t S) := by
  unfold nj
  split
  ·rw [lR]
  ·rw [rI (by omega)]; rfl
 rw [lR, rJ h, nS, hK, hT]
 simp
theorem iV {w : World} {g o : Nat} {v : Value} (h : w.cell? ⟨g, o, none⟩ = some v) : g < w.heap.size := by
 rcases Nat.lt_or_ge g w.heap.size with h1 | h1
 ·exact h1
 ·simp [World.cell?, Array.getElem?_eq_none h1] at h
theorem bq (w : World) (g o : Nat) (v : Value) {z : Value} (hz : w.cell? ⟨g, o, none⟩ = some z) (g' o' : Nat) : (w.setCell ⟨g, o, none⟩ v).cell? ⟨g', o', none⟩ = if g' = g ∧ o' = o then some v else w.cell? ⟨g', o', none⟩ := by
 split
 ·rename_i h; obtain ⟨rfl, rfl⟩ := h; exact World.cell?_setCell_same _ _ _ hz
 ·rename_i h; exact World.cell?_setCell_other _ _ _ _ (fun e => h (by cases e; exact ⟨rfl, rfl⟩))
section
open Go.RowKit Go.ChangeShapes Go.WideShapes Go.ChangeAt
theorem BO {a b : ByteArray} (h : a.data.toList = b.data.toList) : a = b := by
 cases a; cases b; simp only at h; congr; exact Array.ext' h
def lM {H : Type} (ss : List ByteArray) : DataW H := .agg (ss.map fun s => .lit (.string s.data.toList))
theorem ra {H : Type} {enc : TypeId × Value → H} {P : Program} {w : World} {base : Nat} {sp : Nat → Bool} {held : Bool} {fuel : Nat} {t e : TypeId} {n : Nat} {cs : List Value} {zs : List ByteArray} {p : List MemPlace}
  (ht : P.underlying t = some (.array n e)) (he : P.underlying e = some .string) (NA : P.cellsOf e = 1) (hct : P.cellsOf t = n)
  (h : DataW.trod enc P w base sp held fuel t cs = some (lM zs, p)) : cs = zs.map fun z => Value.string z := by
 cases fuel with
 |zero => simp [DataW.trod] at h
 |succ fuel =>
  simp only [DataW.trod, ht, NA, hct, Nat.mul_one] at h
  split at h
  ·rename_i hl
   obtain ⟨xs, hm, hx⟩ := Option.map_eq_some_iff.1 h
   have hxs : xs.map (·.1) = zs.map fun z => (DataW.lit (.string z.data.toList) : DataW H) := by
    have := congrArg Prod.fst hx
    simpa [lM] using this
   have hxl : xs.length = n := by simpa using Lib.mapM_length hm
   have hzl : zs.length = n := by
    have := congrArg List.length hxs
    simp at this
    omega
   apply List.ext_getElem?
   intro i
   by_cases hi : i < n
   ·obtain ⟨b, hb, hf⟩ := Lib.mapM_at hm i i (by simp [hi])
    obtain ⟨z, hc, rfl, _⟩ := DataW.trod_string he hf
    have h1 : cs[i]? = some (.string z) := by
     have := congrArg (·[0]?) hc
     simpa [List.getElem?_take, List.getElem?_drop] using this
    have h2 : (xs.map (·.1))[i]? = some (DataW.lit (.string z.data.toList) : DataW H) := by simp [hb]
    rw [hxs] at h2
    simp only [List.getElem?_map, Option.map_eq_some_iff, DataW.lit.injEq, Lit.string.injEq] at h2
    obtain ⟨z', hz', e'⟩ := h2
    rw [h1, List.getElem?_map, hz', ← BO e']; rfl
   ·rw [List.getElem?_eq_none (by omega), List.getElem?_eq_none (by simp; omega)]
  ·cases h
theorem j8 {H : Type} {enc : TypeId × Value → H} {P : Program} {W : World} {name : String} {zs : List ByteArray} {g : Nat} {t e : TypeId} {n : Nat} {cs : Array Value} {fuel : Nat} {p : List MemPlace} {sp : Nat → Bool} {held : Bool}
  (hg : P.globalNamed name = some g) (ht : P.underlying t = some (.array n e)) (he : P.underlying e = some .string) (NA : P.cellsOf e = 1) (hct : P.cellsOf t = n)
  (hv : W.var? P name = some cs) (hd : DataW.trod enc P W 0 sp held fuel t cs.toList = some (lM zs, p)) (i : Nat) (hi : i < zs.length) :
  W.cell? ⟨g, i, none⟩ = some (.string (zs.getD i ⟨#[]⟩)) := by
 have hc := ra ht he NA hct hd
 have := World.var?_cell hg hv i
 rw [this]
 have e2 : cs[i]? = cs.toList[i]? := by simp
 rw [e2, hc]
 simp [List.getD, hi]
theorem LL {P : Program} {W : World} {name : String} {g : Nat} {cs : Array Value} (hg : P.globalNamed name = some g) (hv : W.var? P name = some cs) : g < W.heap.size := by
 unfold World.var? at hv
 rw [hg] at hv
 simp only [Option.bind_some] at hv
 cases hh : W.heap[g]? with
 |none => rw [hh] at hv; cases hv
 |some o => exact (Array.getElem?_eq_some_iff.1 hh).1
theorem mx {H : Type} {enc : TypeId × Value → H} {P : Program} (hl : laidOutB P = true) {W W' : World} (hb : Below W.heap.size W W') :
  ∀ {ts : List TypeId} {vs : List Value} {ds : List (DataW H)} {ps : List MemPlace}, (ts.all fun t => P.readableRec t && decide (t < P.types.size)) = true → (∀ x ∈ ps, x.block < W.heap.size) →
   DataW.TrodAll enc P W 0 (fun _ => true) true ts vs ds ps → DataW.TrodAll enc P W' 0 (fun b => decide (b < W.heap.size)) true ts vs ds ps
 |[], [], [], _, _, _, h => h
 |t :: ts, v :: vs, d :: ds, ps, hr, bN, h => by
  obtain ⟨p, q, h1, h2, e⟩ := h
  simp only [List.all_cons, Bool.and_eq_true, decide_eq_true_eq] at hr
  exact ⟨p, q, Below.trod hl hr.1.1 hr.1.2 h1 hb (fun x hx => bN x (by rw [e]; simp [hx])), mx hl hb (by simpa using hr.2) (fun x hx => bN x (by rw [e]; simp [hx])) h2, e⟩
 |[], [], _ :: _, _, _, _, h => h.elim
 |[], _ :: _, _, _, _, _, h => h.elim
 |_ :: _, [], _, _, _, _, h => h.elim
 |_ :: _, _ :: _, [], _, _, _, h => h.elim
theorem DY {H : Type} {enc : TypeId × Value → H} {P : Program} {f : Func} {s : ChangeSpec} {W W' : World} {args : Array Value} {ds gs : List (DataW H)} {before : List MemPlace} {tb : TypeId} {apart : Bool}
  (hl : laidOutB P = true) (htb : P.underlying tb = some .bool) (uV : f.resultTypes = #[tb])
  (hr : (f.params.toList.all fun t => P.readableRec t && decide (t < P.types.size)) = true) (hv : varsRowed P s.vars = true)
  (Nw : s.fn H (ds ++ gs) = { results := [.lit (.bool true)], args := ds, vars := gs })
  (hW : DataW.Whole enc P f.params.toList s.vars apart W args.toList ds gs before) (hb : Below W.heap.size W W') :
  s.post enc P f apart true false false W args (.bool true) W' := by
 have hW' := hW
 have bN := hW.lt
 obtain ⟨p, q, hA, hV, rfl, hfz, hnd⟩ := hW
 refine ⟨ds, gs, p ++ q, [], p, q, hW', ?_, ?_, ?_, hb.frame _, fun h => by cases h⟩
 ·rw [Nw, uV]
  exact trodAll_mk1 (shut_bool htb _)
 ·rw [Nw]
  exact mx hl hb hr (fun x hx => bN x (by simp [hx])) hA
 ·rw [Nw]
  exact Below.trodVars hl hb hv hV
end
def Four (W : World) (b : Nat) (x0 x1 x2 x3 : Value) : Prop := W.cell? ⟨b, 0, none⟩ = some x0 ∧ W.cell? ⟨b, 1, none⟩ = some x1 ∧ W.cell? ⟨b, 2, none⟩ = some x2 ∧ W.cell? ⟨b, 3, none⟩ = some x3
theorem Four.keep {B b : Nat} {A C : World} {x0 x1 x2 x3 : Value} (h : Four A b x0 x1 x2 x3) (hb : Below B A C) (hB : b < B) : Four C b x0 x1 x2 x3 := by
 obtain ⟨h0, h1, h2, h3⟩ := h
 exact ⟨(hb.cell (p := ⟨b, 0, none⟩) hB).trans h0, (hb.cell (p := ⟨b, 1, none⟩) hB).trans h1, (hb.cell (p := ⟨b, 2, none⟩) hB).trans h2, (hb.cell (p := ⟨b, 3, none⟩) hB).trans h3⟩
theorem Four.new (W : World) (x0 x1 x2 x3 : Value) (t : TypeId) : Four (W.alloc (.cells #[x0, x1, x2, x3] t)) W.heap.size x0 x1 x2 x3 := by
 unfold Four; simp [go_sem]
def mm (c left : Nat) : Int := if c ≤ left then ((left - c : Nat) : Int) else -1
section
open Go.RowKit Go.ChangeShapes Go.WideShapes
theorem vH {a : Addr} {g off : Nat} (h : a = ⟨g, off, none⟩) (n : Nat) : a.add n = ⟨g, off + n, none⟩ := by
 subst h; unfold Addr.add; split
 ·rename_i h; subst h; rfl
 ·rfl
theorem AJ {w : World} {a : Addr} {v : Value} (h : w.cell? a = some v) : a = ⟨a.block, a.off, none⟩ := by
 cases a with
 |mk g off spot =>
  cases spot with
  |none => rfl
  |some k =>
   unfold World.cell? at h
   split at h
   ·simp at h
   ·cases h
theorem Jn {w : World} {a : Addr} {v : Value} (h : w.cell? a = some v) : a.block < w.heap.size := by
 unfold World.cell? at h
 split at h
 ·rename_i c _ _ hh; exact (Array.getElem?_eq_some_iff.1 hh).1
 ·cases h
end
end Go.Proofs.YteaocammohcgoaaGreatDoor
