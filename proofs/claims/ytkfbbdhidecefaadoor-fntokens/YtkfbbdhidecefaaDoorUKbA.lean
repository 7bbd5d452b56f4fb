import Derived.Test.YtkfbbdhidecefaaDoorUKaBase
import Derived.Deep.LoopGhost
set_option linter.unusedVariables false
set_option maxHeartbeats 16000000
set_option maxRecDepth 100000
namespace Go.Proofs.YtkfbbdhidecefaaDoor
open Go.RowKit
variable {G : Prop}
theorem bP0 (h : G := by
 have Kz : (K.kind == 4) = true := beq_iff_eq.2 hk
 replace tR : Hid (res = K.sOk) := by have := tR.out; simpa [hk, Hid] using this
 clear hk
 exact bP3) : G := h
theorem bP1 (h : G := by
 cases hx : K.eOk
 all_goals have HX := aa hx
 all_goals clear hx
 all_goals go_wp2_with (go_at_call 79; refine (HCE.out _ _ hi vR.out (by simp; omega) (ae (bA) (by omega) HU.out)).mono ?_; rw [HX.out]; rintro e w1 ⟨rfl, hb1⟩)
 ·exact bP6
 ·exact bP5) : G := h
theorem bP2 (h : G := by
 replace tR : Hid (res = false) := by have := tR.out; simpa [hk, Hid] using this
 clear hk
 exact bP4) : G := h
theorem bP3 (h : G := by
 cases hx : K.sOk
 all_goals have HX := aa hx
 all_goals clear hx
 all_goals go_wp2_with (go_at_call 43; refine (LF.out _ _ hi vR.out (by simp; omega) (ae (bA) (by omega) HU.out)).mono ?_; rw [HX.out]; rintro e w1 ⟨rfl, hb1⟩)
 ·exact bP6
 ·exact bP5) : G := h
theorem bP4 (h : G := by
 go_wp2
 go_ret
 exact ⟨aq (HN.out (by rw [tR.out])), kU.trans ((Below.refl _ _).alloc (by omega) _)⟩) : G := h
theorem bP5 (h : G := by
 go_roundg (T.len - (j + 1))
 case rel => exact ⟨j + 1, rfl, by omega, by go_num, HY.out (by rw [tR.out, HX.out]), hb.trans (((Below.refl _ _).alloc (by omega) _).trans (hb1.mono (by simp; omega)))⟩
 case measure => have := LB.out; omega) : G := h
theorem bP6 (h : G := by
 go_ret
 exact ⟨aq (HN.out (by rw [tR.out, HX.out])), kU.trans (((Below.refl _ _).alloc (by omega) _).trans (hb1.mono (by simp; omega)))⟩) : G := h
theorem bP7 (h : G := by
 have k3 : wr.cell? ⟨w.heap.size, 3, none⟩ = some (.slice a T.len cap) := by
  rw [hb.cell (p := ⟨w.heap.size, 3, none⟩) (by show w.heap.size < _; omega)]; simp
 have kU := (HB (.cells #[.int .i64 tk, .int .i64 tn, .string ts, .slice a T.len cap] 27)).out.trans (hb.mono (by omega))
 have zR := kU.size
 have qi : w.heap.size + 1 ≤ wr.heap.size := by have := hb.size; simpa using this
 by_cases bm : j < T.len
 first
 |clear k_P7_0
  ·have Su : j < bo.size := by have := Ly.out; omega
   have k_P8_0 := kk
   exact bP8
  ·obtain rfl : j = T.len := by omega
   have Su : ¬ T.len < bo.size := by have := Ly.out; omega
   go_wp2
   go_ret
   exact ⟨aq (by rw [Qw.out]; exact (iD (by rw [← Ly.out]; exact aN.out)).symm), kU⟩
 |clear k_P7_1
  ·have h1' := Pr.out j bm
   have MO := po.out j
   by_cases fY : S j + 1 ≤ left
   ·have k_P8_1 := kk
    exact bP8
   ·have Sj : oP S left j = -1 := by unfold oP; rw [if_neg fY]
    rw [Sj]
    go_wp2
    go_ret
    exact ⟨nn (by unfold qt; rw [HZE.out, if_neg (by omega)]), kU⟩
  ·obtain rfl : j = T.len := by omega
   go_wp2
   go_ret
   exact ⟨nn (by unfold qt oP; rw [HZE.out]; split <;> split <;> omega), kU⟩) : G := h
theorem bP8 (h : G := by
 rcases HR.out with h0 | ⟨g, off, rfl, h1, h2, h3⟩
 ·omega
 obtain ⟨u, e0, e1, e2, e3, hu⟩ := h3 j bm
 have tf : g < w.heap.size := by omega
 rw [← kU.cell (p := ⟨g, _, none⟩) tf] at e0 e1 e2 e3
 first
 |clear k_P8_0
  obtain ⟨au, cu, rfl, _⟩ := ar.1 hu
  have HU := aa (ae kU gW hu)
  obtain ⟨Ov, El⟩ := HI.out j bm
  have vR := aa (Nd.fine_kid HF.out bm)
  have HN : Hid (fU (fun i => (T.kids i).eOk) (fun i => (T.kids i).sOk) T.kk bo[j].toNat j = false → false = aE (fun i => (T.kids i).eOk) (fun i => (T.kids i).sOk) T.kk T.len bo) := fun h => by
   rw [Qw.out]; exact (lG Su (by rw [Cf Su]; exact h)).symm
  have HY : Hid (fU (fun i => (T.kids i).eOk) (fun i => (T.kids i).sOk) T.kk bo[j].toNat j = true → ∀ i, i < j + 1 → fU (fun i => (T.kids i).eOk) (fun i => (T.kids i).sOk) T.kk (bo.data.toList.getD i 0).toNat i = true) := fun h i hi => by
   by_cases e : i = j
   ·subst e; rw [Cf Su]; exact h
   ·exact aN.out i (by omega)
  have tR : Hid (fU (fun i => (T.kids i).eOk) (fun i => (T.kids i).sOk) T.kk bo[j].toNat j = if bo[j].toNat = 101 then (T.kids j).eOk else if bo[j].toNat = 99 then decide ((T.kids j).kind = 25) && (T.kids j).eOk else if bo[j].toNat = 98 then decide ((T.kids j).kind = 4) && (T.kids j).sOk else (decide ((T.kids j).kind = 4) || decide ((T.kids j).kind = 10)) && (T.kids j).sOk) := rfl
  generalize fU (fun i => (T.kids i).eOk) (fun i => (T.kids i).sOk) T.kk bo[j].toNat j = res at *
  unfold mL Nd.val at Ov
  unfold ic Nd.val at El
  have HCE := aa Ov
  have LF := aa El
  clear h3 Ov El hu aN
  generalize T.kids j = K at *
  have xm : ((bo[j].toNat : Int) == 101) = true ∨ (((bo[j].toNat : Int) == 101) = false ∧ ((bo[j].toNat : Int) == 99) = true) ∨ (((bo[j].toNat : Int) == 101) = false ∧ ((bo[j].toNat : Int) == 99) = false ∧ ((bo[j].toNat : Int) == 98) = true) ∨
    (((bo[j].toNat : Int) == 101) = false ∧ ((bo[j].toNat : Int) == 99) = false ∧ ((bo[j].toNat : Int) == 98) = false) := by
   cases h1 : ((bo[j].toNat : Int) == 101) <;> cases h2 : ((bo[j].toNat : Int) == 99) <;> cases h3 : ((bo[j].toNat : Int) == 98) <;> simp
  rcases xm with q1 | ⟨q1, q2⟩ | ⟨q1, q2, q3⟩ | ⟨q1, q2, q3⟩
  ·have p1 : bo[j].toNat = 101 := by have := beq_iff_eq.1 q1; omega
   replace tR : Hid (res = K.eOk) := by have := tR.out; rw [if_pos p1] at this; exact this
   clear p1
   exact bP1
  ·have p1 : ¬ bo[j].toNat = 101 := by have := beq_eq_false_iff_ne.1 q1; omega
   have p2 : bo[j].toNat = 99 := by have := beq_iff_eq.1 q2; omega
   replace tR : Hid (res = (decide (K.kind = 25) && K.eOk)) := by have := tR.out; rw [if_neg p1, if_pos p2] at this; exact this
   clear p1 p2
   by_cases hk : K.kind = 25
   ·have Kz : (K.kind == 25) = true := beq_iff_eq.2 hk
    replace tR : Hid (res = K.eOk) := by have := tR.out; simpa [hk, Hid] using this
    clear hk
    exact bP1
   ·have Kz : (K.kind == 25) = false := bn hk
    exact bP2
  ·have p1 : ¬ bo[j].toNat = 101 := by have := beq_eq_false_iff_ne.1 q1; omega
   have p2 : ¬ bo[j].toNat = 99 := by have := beq_eq_false_iff_ne.1 q2; omega
   have p3 : bo[j].toNat = 98 := by have := beq_iff_eq.1 q3; omega
   replace tR : Hid (res = (decide (K.kind = 4) && K.sOk)) := by have := tR.out; rw [if_neg p1, if_neg p2, if_pos p3] at this; exact this
   clear p1 p2 p3
   by_cases hk : K.kind = 4
   ·exact bP0
   ·have Kz : (K.kind == 4) = false := bn hk
    exact bP2
  ·have p1 : ¬ bo[j].toNat = 101 := by have := beq_eq_false_iff_ne.1 q1; omega
   have p2 : ¬ bo[j].toNat = 99 := by have := beq_eq_false_iff_ne.1 q2; omega
   have p3 : ¬ bo[j].toNat = 98 := by have := beq_eq_false_iff_ne.1 q3; omega
   replace tR : Hid (res = ((decide (K.kind = 4) || decide (K.kind = 10)) && K.sOk)) := by have := tR.out; rw [if_neg p1, if_neg p2, if_neg p3] at this; exact this
   clear p1 p2 p3
   by_cases hk : K.kind = 4
   ·exact bP0
   ·have Kz : (K.kind == 4) = false := bn hk
    by_cases oT : K.kind = 10
    ·have hkb2 : (K.kind == 10) = true := beq_iff_eq.2 oT
     replace tR : Hid (res = K.sOk) := by have := tR.out; simpa [oT, Hid] using this
     clear hk oT
     exact bP3
    ·have hkb2 : (K.kind == 10) = false := bn oT
     replace tR : Hid (res = false) := by have := tR.out; simpa [hk, oT, Hid] using this
     clear hk oT
     exact bP4
 |clear k_P8_1
  have HU := aa (ae kU gW hu)
  have HC := HI.out j bm
  have vR := aa (Nd.fine_kid HF.out bm)
  have Sj : oP S left j = ((left - (S j + 1) : Nat) : Int) := by unfold oP; rw [if_pos fY]
  have HLN : Hid (qt (T.kids j).size (left - (S j + 1)) = oP S left (j + 1)) := by
   unfold Hid qt oP; rw [MO]; split <;> split <;> omega
  unfold C3 Nd.val at HC
  have AG := aa HC
  clear h3 HC hu MO
  generalize T.kids j = K at *
  rw [Sj]
  go_wp2_with (go_at_call 20; refine (AG.out _ (left - (S j + 1)) _ hi vR.out (by omega) HU.out (by omega)).mono ?_; rw [HLN.out]; rintro e w1 ⟨rfl, hb1⟩)
  exact ⟨⟨j + 1, by omega, by go_num, rfl, hb.trans (hb1.mono qi)⟩, by simp [intOf]; omega⟩) : G := h
def mL (T : Nd) : Prop := ∀ (w : World) (v : Value) (hi : Nat), T.Fine → hi ≤ w.heap.size → Row 0 hi w T v →
 Calls Tryd.prog 79 #[T.val v] w fun e w' => e = .returned (.bool T.eOk) ∧ Below w.heap.size w w'
def ic (T : Nd) : Prop := ∀ (w : World) (v : Value) (hi : Nat), T.Fine → hi ≤ w.heap.size → Row 0 hi w T v →
 Calls Tryd.prog 43 #[T.val v] w fun e w' => e = .returned (.bool T.sOk) ∧ Below w.heap.size w w'
def xD (T : Nd) : Prop := ∀ (w : World) (v : Value) (hi : Nat), T.Fine → hi ≤ w.heap.size → Row 0 hi w T v →
 Calls Tryd.prog 64 #[T.val v] w fun e w' => e = .returned (.bool T.cOk) ∧ Below w.heap.size w w'
def gL (T : Nd) : Prop := ∀ (w : World) (v : Value) (hi : Nat), T.Fine → hi ≤ w.heap.size → Row 0 hi w T v →
 Calls Tryd.prog 87 #[v] w fun e w' => e = .returned (.bool (cM (fun i => (T.kids i).eOk) T.len)) ∧ Below w.heap.size w w'
def iG (T : Nd) : Prop := ∀ (w : World) (v : Value) (hi : Nat) (bo : ByteArray), T.Fine → hi ≤ w.heap.size → Row 0 hi w T v → bo.size ≤ 10 →
 Calls Tryd.prog 63 #[T.val v, .string bo] w fun e w' => e = .returned (.bool (aE (fun i => (T.kids i).eOk) (fun i => (T.kids i).sOk) T.kk T.len bo)) ∧ Below w.heap.size w w'
theorem Hv (T : Nd) (ih : ∀ i, i < T.len → mL (T.kids i)) : gL T := by
 intro w v hi hf gW hr
 have hn := T.fine_len hf
 obtain ⟨a, cap, rfl, bQ, hq⟩ := ar.1 hr
 have HI := aa ih
 have HF := aa hf
 have HR := aa hq
 clear hr hf ih hq bQ
 go_enter Tryd.func87, Tryd.ntmps87
 go_wp2
 go_loopw [3] (fun i wr => ∃ (j : Nat), j ≤ T.len ∧ i = .int .i64 j ∧ Hid (∀ i, i < j → (T.kids i).eOk = true) ∧ Below w.heap.size w wr) (fun i _ => T.len - (intOf i).toNat)
 case atStart => exact ⟨0, by omega, rfl, (fun i hi => by omega), Below.refl _ _⟩
 case round =>
  obtain ⟨j, hj, rfl, aN, hb⟩ := hrel
  have zR := hb.size
  by_cases bm : j < T.len
  ·rcases HR.out with h0 | ⟨g, off, rfl, h1, h2, h3⟩
   ·omega
   obtain ⟨u, e0, e1, e2, e3, hu⟩ := h3 j bm
   have tf : g < w.heap.size := by omega
   rw [← hb.cell (p := ⟨g, _, none⟩) tf] at e0 e1 e2 e3
   have HU := aa (ae hb gW hu)
   have HC := HI.out j bm
   have vR := aa (Nd.fine_kid HF.out bm)
   have HN : Hid ((T.kids j).eOk = false → cM (fun i => (T.kids i).eOk) T.len = false) := fun h => lG bm h
   have HY : Hid ((T.kids j).eOk = true → ∀ i, i < j + 1 → (T.kids i).eOk = true) := fun h i hi => by
    by_cases e : i = j
    ·subst e; exact h
    ·exact aN.out i (by omega)
   unfold mL Nd.val at HC
   have AG := aa HC
   clear h3 HC hu aN
   generalize T.kids j = K at *
   cases hk : K.eOk
   all_goals have HX := aa hk
   all_goals clear hk
   all_goals go_wp2_with (go_at_call 79; refine (AG.out _ _ hi vR.out (by omega) HU.out).mono ?_; rw [HX.out]; rintro e w1 ⟨rfl, hb1⟩)
   ·go_ret
    exact ⟨aq (HN.out HX.out).symm, hb.trans (hb1.mono zR)⟩
   ·exact ⟨⟨j + 1, by omega, by go_num, HY.out HX.out, hb.trans (hb1.mono zR)⟩, by simp [intOf]; omega⟩
  ·obtain rfl : j = T.len := by omega
   go_wp2
   go_ret
   exact ⟨aq (iD aN.out).symm, hb⟩
theorem Cf {bo : ByteArray} {j : Nat} (h : j < bo.size) : bo.data.toList.getD j 0 = bo[j] := by
 have : j < bo.data.toList.length := by simpa using h
 simp only [List.getD, List.getElem?_eq_getElem this, Option.getD_some]; rfl
theorem Km (T : Nd) (ih : ∀ i, i < T.len → mL (T.kids i) ∧ ic (T.kids i)) : iG T := by
 intro w v hi bo hf gW hr hs
 have hn := T.fine_len hf
 obtain ⟨a, cap, rfl, bQ, hq⟩ := ar.1 hr
 have HI := aa ih
 have HF := aa hf
 have HR := aa hq
 clear hr hf ih hq bQ
 unfold Nd.val
 generalize T.kind = tk
 generalize T.num = tn
 generalize T.name = ts
 have HB : ∀ a : Obj, Hid (Below w.heap.size w (w.alloc a)) := fun a => bA
 by_cases hlen : T.len = bo.size
 ·have zK : ((T.len : Int) != (bo.size : Int)) = false := by simp [hlen]
  have Qw : Hid (aE (fun i => (T.kids i).eOk) (fun i => (T.kids i).sOk) T.kk T.len bo = cM (fun i => fU (fun i => (T.kids i).eOk) (fun i => (T.kids i).sOk) T.kk (bo.data.toList.getD i 0).toNat i) bo.size) := by
   unfold Hid aE; simp [hlen]
  have Ly := aa hlen
  clear hlen
  have hle : T.len ≤ 10 := by have := Ly.out; omega
  go_enter Tryd.func63, Tryd.ntmps63
  go_wp2
  go_loopg [5] T.len (fun gk i wr => ∃ (j : Nat), gk = T.len - j ∧ j ≤ T.len ∧ i = .int .i64 j ∧ Hid (∀ i, i < j → fU (fun i => (T.kids i).eOk) (fun i => (T.kids i).sOk) T.kk (bo.data.toList.getD i 0).toNat i = true) ∧ Below (w.heap.size + 1) (w.alloc (.cells #[.int .i64 tk, .int .i64 tn, .string ts, .slice a T.len cap] 27)) wr)
  case atStart => exact ⟨0, by omega, by omega, rfl, (fun i hi => by omega), Below.refl _ _⟩
  case round =>
   obtain ⟨j, zN, hj, rfl, aN, hb⟩ := hrel
   have LB := aa zN
   clear zN
   have k_P7_0 := kk
   exact bP7
 ·have zK : ((T.len : Int) != (bo.size : Int)) = true := by rw [bne_iff_ne]; omega
  have Qw : Hid (aE (fun i => (T.kids i).eOk) (fun i => (T.kids i).sOk) T.kk T.len bo = false) := by
   unfold Hid aE; simp [hlen]
  go_enter Tryd.func63, Tryd.ntmps63
  go_wp2
  go_ret
  exact ⟨aq Qw.out.symm, (HB _).out⟩
theorem sF {n : Nat} {b : Bool} (h : ((n : Int) == 0) = b) : decide (n = 0) = b := by
 subst h; rw [Bool.eq_iff_iff]; simp
theorem wV {n m : Int} {b : Bool} (h : (n == m) = b) : decide (n = m) = b := by
 subst h; rw [Bool.eq_iff_iff]; simp
theorem pc {n : Int} {b : Bool} (h : (n != 0) = b) : decide (n = 0) = !b := by
 subst h; rw [Bool.eq_iff_iff]; simp
theorem Rd {n : Nat} {b : Bool} (h : decide ((n : Int) < 2) = b) : decide (n < 2) = b := by
 subst h; rw [Bool.eq_iff_iff]; simp; omega
theorem iw {W w1 : World} (hb : Below W.heap.size W w1) : (∀ b o, b < W.heap.size → w1.cell? ⟨b, o, none⟩ = W.cell? ⟨b, o, none⟩) ∧ (∀ b o, b < W.heap.size → w1.frozen? ⟨b, o, none⟩ = W.frozen? ⟨b, o, none⟩) :=
 ⟨fun b o h => hb.cell (p := ⟨b, o, none⟩) h, fun b o h => hb.frozen (p := ⟨b, o, none⟩) h⟩
def C3 (T : Nd) : Prop := ∀ (w : World) (left : Nat) (v : Value) (hi : Nat), T.Fine → hi ≤ w.heap.size → Row 0 hi w T v → left ≤ 1048576 →
 Calls Tryd.prog 20 #[T.val v, .int .i64 left] w fun e w' => e = .returned (.int .i64 (qt T.size left)) ∧ Below w.heap.size w w'
def oP (S : Nat → Nat) (left j : Nat) : Int := if S j + 1 ≤ left then ((left - (S j + 1) : Nat) : Int) else -1
theorem Cp (T : Nd) (ih : ∀ i, i < T.len → C3 (T.kids i)) : C3 T := by
 intro w left v hi hf gW hr hl
 have hn := T.fine_len hf
 have hze := T.size_eq
 obtain ⟨a, cap, rfl, bQ, hq⟩ := ar.1 hr
 clear bQ
 have HI := aa ih
 have HF := aa hf
 have HR := aa hq
 clear hr hf ih hq
 have aF : ∀ j, j < T.len → ag (fun i => (T.kids i).size) j + (T.kids j).size ≤ ag (fun i => (T.kids i).size) T.len := fun j hj => nj _ hj
 have gS : ∀ j, ag (fun i => (T.kids i).size) (j + 1) = ag (fun i => (T.kids i).size) j + (T.kids j).size := fun j => rfl
 have h00 : ag (fun i => (T.kids i).size) 0 = 0 := rfl
 generalize ag (fun i => (T.kids i).size) = S at *
 have Pr := aa aF
 have po := aa gS
 have HZE := aa hze
 clear aF gS hze
 unfold Nd.val
 generalize T.kind = tk
 generalize T.num = tn
 generalize T.name = ts
 have HB : ∀ a : Obj, Hid (Below w.heap.size w (w.alloc a)) := fun a => bA
 go_enter Tryd.func20, Tryd.ntmps20
 go_wp2
 go_loopw [1, 5] (fun k i wr => ∃ (j : Nat), j ≤ T.len ∧ i = .int .i64 j ∧ k = .int .i64 (oP S left j) ∧ Below (w.heap.size + 1) (w.alloc (.cells #[.int .i64 tk, .int .i64 tn, .string ts, .slice a T.len cap] 27)) wr) (fun _ i _ => T.len - (intOf i).toNat)
 case atStart => exact ⟨0, by omega, rfl, by unfold oP; rw [h00]; congr 1; split <;> omega, Below.refl _ _⟩
 case round =>
  obtain ⟨j, hj, rfl, rfl, hb⟩ := hrel
  have k_P7_1 := kk
  exact bP7
theorem zr (T : Nd) : C3 T := by
 induction T with
 |nil => exact Cp _ fun i hi => absurd hi (Nat.not_lt_zero i)
 |mk k n s len kids ih => exact Cp _ fun i _ => ih i
end Go.Proofs.YtkfbbdhidecefaaDoor
