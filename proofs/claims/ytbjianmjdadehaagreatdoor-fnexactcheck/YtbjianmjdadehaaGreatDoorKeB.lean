/- The program's checker: a sign of one side. Written by mkci.py. -/
import Derived.Test.YtbjianmjdadehaaGreatDoorKeA
import Derived.Test.YtbjianmjdadehaaGreatDoorKdC
import Derived.Deep.RegionHeld3
set_option linter.unusedVariables false
namespace Go.Proofs.YtbjianmjdadehaaGreatDoor
open Go.RowKit

theorem box_cells {w : World} {b : Nat} {a b' : Int} {c : ByteArray} {d : Value} {t : TypeId} (h : w.heap[b]? = some (.cells #[.int .i64 a, .int .i64 b', .string c, d] t)) : w.cell? ⟨b, 0, none⟩ = some (.int .i64 a) ∧ w.cell? ⟨b, 1, none⟩ = some (.int .i64 b') ∧ w.cell? ⟨b, 2, none⟩ = some (.string c) ∧ w.cell? ⟨b, 3, none⟩ = some d := by
  refine ⟨?_, ?_, ?_, ?_⟩ <;> simp [World.cell?, h]
theorem ansE {α : Type} {K : IK} {f : FuncId} {args : Array Value} {w : World} {M : CR α} {good : α → Ending → World → Prop} (h : Calls Tryz.prog f args w (Ans K w M good)) {p : Int × Nat} (hM : M = .error p) : Calls Tryz.prog f args w fun e w' => e = .panicked [{ v := fltV p, recovered := false }] ∧ Below K.lo w w' := by subst hM; exact h
theorem ansO {α : Type} {K : IK} {f : FuncId} {args : Array Value} {w : World} {M : CR α} {good : α → Ending → World → Prop} (h : Calls Tryz.prog f args w (Ans K w M good)) {a : α} (hM : M = .ok a) : Calls Tryz.prog f args w (good a) := by subst hM; exact h
theorem take_fit {K : IK} {T : Nd} {s : CS} (hfit : s.2.length + T.size ≤ K.N) {i : Nat} (hi : i < T.len) : (take0 s).2.length + (T.kids i).size ≤ K.N := by
  have := kid_size T hi; rw [take0_len]; omega

def IUnS (T : Nd) : Prop := ∀ (K : IK) (w0 : World) (O : Nat → Prop) (s : CS) (ret loops sels : Int) (w : World) (v : Value), IS K w0 O (take0 s) ret loops sels w → IEnv K w → INd K w T v → s.2.length + T.size ≤ K.N → T.kind = 27 → T.eOk = true →
  Calls Tryz.prog 129 #[.pointer (some ⟨K.cb, 0, none⟩), T.val v] w (Ans K w (typeM K.F T.kind T.name T.len (fun i => exT K.F (T.kids i)) (take0 s) s.2.length) fun r e w' => e = .returned (.int .i64 r.1) ∧ IS K w0 O r.2 ret loops sels w')
set_option maxHeartbeats 4000000 in
set_option maxRecDepth 100000 in
theorem iun_of {T : Nd} (ih : ∀ i, i < T.len → IExS (T.kids i)) : IUnS T := by
  intro K w0 O s ret loops sels w v hS hE hN hfit hk hok
  obtain ⟨hl, he0⟩ := eo_27 hk hok
  have hty : typeM K.F T.kind T.name T.len (fun i => exT K.F (T.kids i)) (take0 s) s.2.length = CR.bind (wantM (exT K.F (T.kids 0)) (if notB T.name then 2 else 1) (take0 s)) fun s1 => .ok (if notB T.name then 2 else 1, s1) := by
    unfold typeM
    rw [if_neg (by omega), if_neg (by omega), if_neg (by omega), if_neg (by omega), if_neg (by omega), if_pos hk]
  rw [hty]
  obtain ⟨g, off, cap, hv, hgl, hcap, hkid⟩ := ck_kid hN.row (by omega)
  subst hv
  obtain ⟨u0, hc0, hr0⟩ := hkid 0 (by omega)
  simp only [Nat.zero_mul, Nat.add_zero] at hc0
  have HC0 := hid_mk hc0
  obtain ⟨O1, hs1, hback1, hbox1, hbl1⟩ := hS.boxed (.cells #[.int .i64 T.kind, .int .i64 T.num, .string T.name, .slice (some ⟨g, off, none⟩) T.len cap] 30)
  have HBX := hid_mk hbox1
  have HBL := hid_mk hbl1
  have HB1 := hid_mk hback1
  have HS1 := hid_mk hs1
  have hlo : K.lo ≤ w.heap.size := by have := hS.lt; have := hS.ok.cl; omega
  have hfew := hS.ok.few
  have HW0 := hid_mk (fun (W : World) (st : CS) (ret loops sels : Int) (ty : Int) (hW : IS K (w.alloc (.cells #[.int .i64 T.kind, .int .i64 T.num, .string T.name, .slice (some ⟨g, off, none⟩) T.len cap] 30)) O1 st ret loops sels W) (hf : st.2.length + (T.kids 0).size ≤ K.N) => iwant_of (ih 0 (by omega)) K _ O1 st ret loops sels W u0 ty hW (hE.later (hbl1 _ _ _ _ _ hW)) ((hN.kid (by omega) hr0).later (hbl1 _ _ _ _ _ hW)) hf he0)
  have HF0 := hid_mk (take_fit hfit (i := 0) (by omega))
  have hsg := notB_eq T.name
  unfold Nd.val
  have hgw : g < w.heap.size := by omega
  have hgw1 : g < w.heap.size + 1 := by omega
  have hgw2 : g < w.heap.size + 1 + 1 := by omega
  have hgn0 : ¬ g = w.heap.size := by omega
  have hgn1 : ¬ g = w.heap.size + 1 := by omega
  have hgn2 : ¬ g = w.heap.size + 1 + 1 := by omega
  obtain ⟨c00, c01, c02, c03⟩ := HC0.out w (Below.refl _ _)
  have hpos : 0 < T.len := by omega
  clear hS hE hN hs1 hback1 hbox1 hbl1 hkid hc0 hr0 hty hok hk hl
  cases hnb : notB T.name with
  | true =>
    rw [hnb] at hsg
    have hsg' : (T.name.toList == [33]) = true := hsg.symm
    simp only [if_true]
    clear hsg hnb
    cases hM : wantM (exT K.F (T.kids 0)) 2 (take0 s) with
    | error p =>
      have HM := hid_mk hM
      clear hM
      rw [CR.bind_error]
      go_enter Tryz.func129, Tryz.ntmps129
      go_wp2_with (first
        | (go_at_call 109; refine (ansE (HW0.out _ _ _ _ _ 2 HS1.out HF0.out) HM.out).mono ?_; rintro e w2 ⟨rfl, hb2⟩; skip))
      exact ⟨rfl, rfl, (HBL.out _ _ _ _ _ HS1.out).trans hb2⟩
    | ok s1 =>
      have HM := hid_mk hM
      clear hM
      rw [CR.bind_ok]
      go_enter Tryz.func129, Tryz.ntmps129
      go_wp2_with (first
        | (go_at_call 109; refine (ansO (HW0.out _ _ _ _ _ 2 HS1.out HF0.out) HM.out).mono ?_; rintro e w2 ⟨rfl, hs2⟩; have HS2 := hid_mk hs2; clear hs2))
      go_ret
      exact ⟨rfl, HB1.out _ _ _ _ _ HS2.out⟩
  | false =>
    rw [hnb] at hsg
    have hsg' : (T.name.toList == [33]) = false := hsg.symm
    simp only [if_false, Bool.false_eq_true]
    clear hsg hnb
    cases hM : wantM (exT K.F (T.kids 0)) 1 (take0 s) with
    | error p =>
      have HM := hid_mk hM
      clear hM
      rw [CR.bind_error]
      go_enter Tryz.func129, Tryz.ntmps129
      go_wp2_with (first
        | (go_at_call 109; refine (ansE (HW0.out _ _ _ _ _ 1 HS1.out HF0.out) HM.out).mono ?_; rintro e w2 ⟨rfl, hb2⟩; skip))
      exact ⟨rfl, rfl, (HBL.out _ _ _ _ _ HS1.out).trans hb2⟩
    | ok s1 =>
      have HM := hid_mk hM
      clear hM
      rw [CR.bind_ok]
      go_enter Tryz.func129, Tryz.ntmps129
      go_wp2_with (first
        | (go_at_call 109; refine (ansO (HW0.out _ _ _ _ _ 1 HS1.out HF0.out) HM.out).mono ?_; rintro e w2 ⟨rfl, hs2⟩; have HS2 := hid_mk hs2; clear hs2))
      go_ret
      exact ⟨rfl, HB1.out _ _ _ _ _ HS2.out⟩

end Go.Proofs.YtbjianmjdadehaaGreatDoor
namespace Go.Proofs.YtbjianmjdadehaaGreatDoor
open Go.RowKit

def IBiS (T : Nd) : Prop := ∀ (K : IK) (w0 : World) (O : Nat → Prop) (s : CS) (ret loops sels : Int) (w : World) (v : Value), IS K w0 O (take0 s) ret loops sels w → IEnv K w → INd K w T v → s.2.length + T.size ≤ K.N → T.kind = 28 → T.eOk = true →
  Calls Tryz.prog 130 #[.pointer (some ⟨K.cb, 0, none⟩), T.val v] w (Ans K w (typeM K.F T.kind T.name T.len (fun i => exT K.F (T.kids i)) (take0 s) s.2.length) fun r e w' => e = .returned (.int .i64 r.1) ∧ IS K w0 O r.2 ret loops sels w')
theorem IS.boxed3 {K : IK} {w0 : World} {O : Nat → Prop} {s : CS} {ret loops sels : Int} {w : World} (h : IS K w0 O s ret loops sels w) (o1 o2 o3 : Obj) : ∃ O3 : Nat → Prop, IS K (((w.alloc o1).alloc o2).alloc o3) O3 s ret loops sels (((w.alloc o1).alloc o2).alloc o3) ∧ (∀ s' r' l' o' W, IS K (((w.alloc o1).alloc o2).alloc o3) O3 s' r' l' o' W → IS K w0 O s' r' l' o' W) ∧
    (∀ s' r' l' o' W, IS K (((w.alloc o1).alloc o2).alloc o3) O3 s' r' l' o' W → W.heap[w.heap.size]? = some o1 ∧ W.heap[w.heap.size + 1]? = some o2 ∧ W.heap[w.heap.size + 1 + 1]? = some o3) ∧ ∀ s' r' l' o' W, IS K (((w.alloc o1).alloc o2).alloc o3) O3 s' r' l' o' W → Below K.lo w W := by
  obtain ⟨O1, a1, a2, a3, a4⟩ := h.boxed o1
  obtain ⟨O2, b1, b2, b3, b4⟩ := a1.boxed o2
  obtain ⟨O3, c1, c2, c3, c4⟩ := b1.boxed o3
  refine ⟨O3, c1, fun s' r' l' o' W hW => a2 _ _ _ _ _ (b2 _ _ _ _ _ (c2 _ _ _ _ _ hW)), fun s' r' l' o' W hW => ⟨a3 _ _ _ _ _ (b2 _ _ _ _ _ (c2 _ _ _ _ _ hW)), ?_, ?_⟩, fun s' r' l' o' W hW => a4 _ _ _ _ _ (b2 _ _ _ _ _ (c2 _ _ _ _ _ hW))⟩
  · have := b3 _ _ _ _ _ (c2 _ _ _ _ _ hW); simpa using this
  · have := c3 _ _ _ _ _ hW; simpa using this
structure I2 (K : IK) (w0 : World) (O : Nat → Prop) (Bs : World) (Ob : Nat → Prop) (w : World) (A B : Nd) (va vb : Value) (lb rb : Nat) (s : CS) (ret loops sels : Int) (X : World) : Prop where
  st : IS K Bs Ob s ret loops sels X
  back : ∀ s' r' l' o' W, IS K Bs Ob s' r' l' o' W → IS K w0 O s' r' l' o' W
  below : ∀ s' r' l' o' W, IS K Bs Ob s' r' l' o' W → Below K.lo w W
  lc : ∀ s' r' l' o' W, IS K Bs Ob s' r' l' o' W → W.cell? ⟨lb, 0, none⟩ = some (.int .i64 A.kind) ∧ W.cell? ⟨lb, 1, none⟩ = some (.int .i64 A.num) ∧ W.cell? ⟨lb, 2, none⟩ = some (.string A.name) ∧ W.cell? ⟨lb, 3, none⟩ = some va
  rc : ∀ s' r' l' o' W, IS K Bs Ob s' r' l' o' W → W.cell? ⟨rb, 0, none⟩ = some (.int .i64 B.kind) ∧ W.cell? ⟨rb, 1, none⟩ = some (.int .i64 B.num) ∧ W.cell? ⟨rb, 2, none⟩ = some (.string B.name) ∧ W.cell? ⟨rb, 3, none⟩ = some vb
theorem i2_ab {K : IK} {w0 : World} {O : Nat → Prop} {s : CS} {ret loops sels : Int} {w : World} (h : IS K w0 O s ret loops sels w) (o : Obj) (A B : Nd) (va vb : Value) (t : TypeId) : ∃ Ob, I2 K w0 O (((w.alloc o).alloc (.cells #[.int .i64 A.kind, .int .i64 A.num, .string A.name, va] t)).alloc (.cells #[.int .i64 B.kind, .int .i64 B.num, .string B.name, vb] t)) Ob w A B va vb (w.heap.size + 1) (w.heap.size + 1 + 1) s ret loops sels (((w.alloc o).alloc (.cells #[.int .i64 A.kind, .int .i64 A.num, .string A.name, va] t)).alloc (.cells #[.int .i64 B.kind, .int .i64 B.num, .string B.name, vb] t)).drew := by
  obtain ⟨O3, h1, h2, h3, h4⟩ := h.boxed3 o (.cells #[.int .i64 A.kind, .int .i64 A.num, .string A.name, va] t) (.cells #[.int .i64 B.kind, .int .i64 B.num, .string B.name, vb] t)
  exact ⟨O3, h1.drew, h2, h4, fun s' r' l' o' W hW => box_cells (h3 _ _ _ _ _ hW).2.1, fun s' r' l' o' W hW => box_cells (h3 _ _ _ _ _ hW).2.2⟩
theorem i2_ba {K : IK} {w0 : World} {O : Nat → Prop} {s : CS} {ret loops sels : Int} {w : World} (h : IS K w0 O s ret loops sels w) (o : Obj) (A B : Nd) (va vb : Value) (t : TypeId) : ∃ Ob, I2 K w0 O (((w.alloc o).alloc (.cells #[.int .i64 B.kind, .int .i64 B.num, .string B.name, vb] t)).alloc (.cells #[.int .i64 A.kind, .int .i64 A.num, .string A.name, va] t)) Ob w A B va vb (w.heap.size + 1 + 1) (w.heap.size + 1) s ret loops sels (((w.alloc o).alloc (.cells #[.int .i64 B.kind, .int .i64 B.num, .string B.name, vb] t)).alloc (.cells #[.int .i64 A.kind, .int .i64 A.num, .string A.name, va] t)).drew := by
  obtain ⟨O3, h1, h2, h3, h4⟩ := h.boxed3 o (.cells #[.int .i64 B.kind, .int .i64 B.num, .string B.name, vb] t) (.cells #[.int .i64 A.kind, .int .i64 A.num, .string A.name, va] t)
  exact ⟨O3, h1.drew, h2, h4, fun s' r' l' o' W hW => box_cells (h3 _ _ _ _ _ hW).2.2, fun s' r' l' o' W hW => box_cells (h3 _ _ _ _ _ hW).2.1⟩
def Sides (n : ByteArray) (side whole : Int) : Prop :=
  ((n.toList == [38, 38]) = true ∧ side = 2 ∧ whole = 2) ∨
  ((n.toList == [38, 38]) = false ∧ (n.toList == [124, 124]) = true ∧ side = 2 ∧ whole = 2) ∨
  ((n.toList == [38, 38]) = false ∧ (n.toList == [124, 124]) = false ∧ (n.toList == [60]) = true ∧ side = 1 ∧ whole = 2) ∨
  ((n.toList == [38, 38]) = false ∧ (n.toList == [124, 124]) = false ∧ (n.toList == [60]) = false ∧ (n.toList == [60, 61]) = true ∧ side = 1 ∧ whole = 2) ∨
  ((n.toList == [38, 38]) = false ∧ (n.toList == [124, 124]) = false ∧ (n.toList == [60]) = false ∧ (n.toList == [60, 61]) = false ∧ (n.toList == [62]) = true ∧ side = 1 ∧ whole = 2) ∨
  ((n.toList == [38, 38]) = false ∧ (n.toList == [124, 124]) = false ∧ (n.toList == [60]) = false ∧ (n.toList == [60, 61]) = false ∧ (n.toList == [62]) = false ∧ (n.toList == [62, 61]) = true ∧ side = 1 ∧ whole = 2) ∨
  ((n.toList == [38, 38]) = false ∧ (n.toList == [124, 124]) = false ∧ (n.toList == [60]) = false ∧ (n.toList == [60, 61]) = false ∧ (n.toList == [62]) = false ∧ (n.toList == [62, 61]) = false ∧ side = 1 ∧ whole = 1)
set_option maxHeartbeats 4000000 in
set_option maxRecDepth 100000 in
theorem ibi_two {T : Nd} (ih : ∀ i, i < T.len → IExS (T.kids i)) (side whole : Int) (hq1 : (T.name.toList == [61, 61]) = false) (hq2 : (T.name.toList == [33, 61]) = false)
    (hD : Sides T.name side whole) (hty' : ∀ (F : Nd) (ex : Nat → ExM) (s : CS) (p : Nat), typeM F T.kind T.name T.len ex s p = CR.bind (wantM (ex 0) side s) fun s1 => CR.bind (wantM (ex 1) side s1) fun s2 => .ok (whole, s2)) : IBiS T := by
  intro K w0 O s ret loops sels w v hS hE hN hfit hk hok
  obtain ⟨hlv, hl, he0, he1⟩ := eo_28 hk hok
  have hty := hty' K.F (fun i => exT K.F (T.kids i)) (take0 s) s.2.length
  rw [hty]
  clear hty'
  obtain ⟨g, off, cap, hv, hgl, hcap, hkid⟩ := ck_kid hN.row (by omega)
  subst hv
  obtain ⟨u0, hc0, hr0⟩ := hkid 0 (by omega)
  simp only [Nat.zero_mul, Nat.add_zero] at hc0
  obtain ⟨a0, q0, hu0, hcp0, hqq0⟩ := row_eq.1 hr0
  clear hqq0
  subst hu0
  have HC0 := hid_mk hc0
  obtain ⟨u1, hc1, hr1⟩ := hkid 1 (by omega)
  simp only [Nat.one_mul] at hc1
  obtain ⟨a1, q1, hu1, hcp1, hqq1⟩ := row_eq.1 hr1
  clear hqq1
  subst hu1
  have HC1 := hid_mk hc1
  obtain ⟨O1, hs1, hback1, hbox1, hbl1⟩ := hS.boxed (.cells #[.int .i64 T.kind, .int .i64 T.num, .string T.name, .slice (some ⟨g, off, none⟩) T.len cap] 30)
  have HBX := hid_mk hbox1
  have HBL := hid_mk hbl1
  have HB1 := hid_mk hback1
  have HS1 := hid_mk hs1
  have hlo : K.lo ≤ w.heap.size := by have := hS.lt; have := hS.ok.cl; omega
  have hfew := hS.ok.few
  have HAB := hid_mk (i2_ab hS (.cells #[.int .i64 T.kind, .int .i64 T.num, .string T.name, .slice (some ⟨g, off, none⟩) T.len cap] 30) (T.kids 0) (T.kids 1) (.slice a0 (T.kids 0).len q0) (.slice a1 (T.kids 1).len q1) 30)
  have HBA := hid_mk (i2_ba hS (.cells #[.int .i64 T.kind, .int .i64 T.num, .string T.name, .slice (some ⟨g, off, none⟩) T.len cap] 30) (T.kids 0) (T.kids 1) (.slice a0 (T.kids 0).len q0) (.slice a1 (T.kids 1).len q1) 30)
  have HW0 := hid_mk (fun (Bs : World) (Ob : Nat → Prop) (W : World) (st : CS) (ty : Int) (hW : IS K Bs Ob st ret loops sels W) (hb : Below K.lo w W) (hf : st.2.length + (T.kids 0).size ≤ K.N) => iwant_of (ih 0 (by omega)) K Bs Ob st ret loops sels W (.slice a0 (T.kids 0).len q0) ty hW (hE.later hb) ((hN.kid (by omega) hr0).later hb) hf he0)
  have HV0 := hid_mk (fun (Bs : World) (Ob : Nat → Prop) (W : World) (st : CS) (hW : IS K Bs Ob st ret loops sels W) (hb : Below K.lo w W) (hf : st.2.length + (T.kids 0).size ≤ K.N) => ivalue_of (ih 0 (by omega)) K Bs Ob st ret loops sels W (.slice a0 (T.kids 0).len q0) hW (hE.later hb) ((hN.kid (by omega) hr0).later hb) hf he0)
  have HW1 := hid_mk (fun (Bs : World) (Ob : Nat → Prop) (W : World) (st : CS) (ty : Int) (hW : IS K Bs Ob st ret loops sels W) (hb : Below K.lo w W) (hf : st.2.length + (T.kids 1).size ≤ K.N) => iwant_of (ih 1 (by omega)) K Bs Ob st ret loops sels W (.slice a1 (T.kids 1).len q1) ty hW (hE.later hb) ((hN.kid (by omega) hr1).later hb) hf he1)
  have HV1 := hid_mk (fun (Bs : World) (Ob : Nat → Prop) (W : World) (st : CS) (hW : IS K Bs Ob st ret loops sels W) (hb : Below K.lo w W) (hf : st.2.length + (T.kids 1).size ≤ K.N) => ivalue_of (ih 1 (by omega)) K Bs Ob st ret loops sels W (.slice a1 (T.kids 1).len q1) hW (hE.later hb) ((hN.kid (by omega) hr1).later hb) hf he1)
  have HF0 := hid_mk (take_fit hfit (i := 0) (by omega))
  have HF1 : Hid (∀ st : CS, st.2.length = (take0 s).2.length + (T.kids 0).size → st.2.length + (T.kids 1).size ≤ K.N) := by
    intro st h
    have hz := T.size_eq
    rw [hl] at hz; simp only [sumTo] at hz
    rw [take0_len] at h; omega
  unfold Nd.val at *
  have hgw : g < w.heap.size := by omega
  have hgw1 : g < w.heap.size + 1 := by omega
  have hgw2 : g < w.heap.size + 1 + 1 := by omega
  have hgn0 : ¬ g = w.heap.size := by omega
  have hgn1 : ¬ g = w.heap.size + 1 := by omega
  have hgn2 : ¬ g = w.heap.size + 1 + 1 := by omega
  obtain ⟨c00, c01, c02, c03⟩ := HC0.out w (Below.refl _ _)
  obtain ⟨c10, c11, c12, c13⟩ := HC1.out w (Below.refl _ _)
  obtain ⟨d00, d01, d02, d03⟩ := HC0.out _ (HBL.out _ _ _ _ _ HS1.out)
  obtain ⟨d10, d11, d12, d13⟩ := HC1.out _ (HBL.out _ _ _ _ _ HS1.out)
  have hpos : 0 < T.len := by omega
  have hpos1 : (1 : Int) < (T.len : Int) := by omega
  have hpos1n : 1 < T.len := by omega
  have HD := hid_mk hD
  have HXL := hid_mk (fun s1 (h : wantM (exT K.F (T.kids 0)) side (take0 s) = .ok s1) => ((ex_len K.F _ he0).want side _ _ h).2)
  clear hD hlv
  clear hS hE hN hs1 hback1 hbox1 hbl1 hkid hc0 hr0 hc1 hr1 hok hk hl ih hty he0 he1 hfit
  generalize T.kids 0 = A at *
  generalize T.kids 1 = B at *
  cases hM : wantM (exT K.F A) side (take0 s) with
  | error p =>
    have HM := hid_mk hM
    clear hM
    rw [CR.bind_error]
    go_enter Tryz.func130, Tryz.ntmps130
    go_wp2
    go_region_held3 (fun W => W.cell? ⟨w.heap.size, 2, none⟩ = some (.string T.name) ∧ W.cell? ⟨w.heap.size, 3, none⟩ = some (.slice (some ⟨g, off, none⟩) T.len cap) ∧ W.cell? ⟨g, off, none⟩ = some (.int .i64 A.kind) ∧ W.cell? ⟨g, off + 1, none⟩ = some (.int .i64 A.num) ∧ W.cell? ⟨g, off + 2, none⟩ = some (.string A.name) ∧ W.cell? ⟨g, off + 3, none⟩ = some (.slice a0 A.len q0) ∧ W.cell? ⟨g, off + 4, none⟩ = some (.int .i64 B.kind) ∧ W.cell? ⟨g, off + 4 + 1, none⟩ = some (.int .i64 B.num) ∧ W.cell? ⟨g, off + 4 + 2, none⟩ = some (.string B.name) ∧ W.cell? ⟨g, off + 4 + 3, none⟩ = some (.slice a1 B.len q1)) (go_keep) (fail)
    clear c00 c01 c02 c03 c10 c11 c12 c13 d00 d01 d02 d03 d10 d11 d12 d13
    rotate_left
    · obtain ⟨Ob, hI⟩ := HBA.out
      have nm : (((w.alloc (.cells #[.int .i64 T.kind, .int .i64 T.num, .string T.name, .slice (some ⟨g, off, none⟩) T.len cap] 30)).alloc (.cells #[.int .i64 B.kind, .int .i64 B.num, .string B.name, .slice a1 B.len q1] 30)).alloc (.cells #[.int .i64 A.kind, .int .i64 A.num, .string A.name, .slice a0 A.len q0] 30)).drew.cell? ⟨w.heap.size, 2, none⟩ = some (.string T.name) := by simp [go_sem]
      generalize (((w.alloc (.cells #[.int .i64 T.kind, .int .i64 T.num, .string T.name, .slice (some ⟨g, off, none⟩) T.len cap] 30)).alloc (.cells #[.int .i64 B.kind, .int .i64 B.num, .string B.name, .slice a1 B.len q1] 30)).alloc (.cells #[.int .i64 A.kind, .int .i64 A.num, .string A.name, .slice a0 A.len q0] 30)).drew = X at *
      generalize ((w.alloc (.cells #[.int .i64 T.kind, .int .i64 T.num, .string T.name, .slice (some ⟨g, off, none⟩) T.len cap] 30)).alloc (.cells #[.int .i64 B.kind, .int .i64 B.num, .string B.name, .slice a1 B.len q1] 30)).alloc (.cells #[.int .i64 A.kind, .int .i64 A.num, .string A.name, .slice a0 A.len q0] 30) = Bs at *
      clear hgw1 hgw2 hgn1 hgn2 HAB HBA
      generalize w.heap.size + 1 + 1 = lb at *
      generalize w.heap.size + 1 = rb at *
      have HI := hid_mk hI
      obtain ⟨l0, l1, l2, l3⟩ := hI.lc _ _ _ _ _ hI.st
      obtain ⟨r0, r1, r2, r3⟩ := hI.rc _ _ _ _ _ hI.st
      clear hI
      rcases HD.out with ⟨n1, rfl, rfl⟩ | ⟨n1, n2, rfl, rfl⟩ | ⟨n1, n2, n3, rfl, rfl⟩ | ⟨n1, n2, n3, n4, rfl, rfl⟩ | ⟨n1, n2, n3, n4, n5, rfl, rfl⟩ | ⟨n1, n2, n3, n4, n5, n6, rfl, rfl⟩ | ⟨n1, n2, n3, n4, n5, n6, rfl, rfl⟩
      all_goals go_wp2_with (first
        | (go_at_call 109; refine (ansE (HW0.out Bs Ob _ _ _ HI.out.st (HI.out.below _ _ _ _ _ HI.out.st) HF0.out) HM.out).mono ?_; rintro e w2 ⟨rfl, hb2⟩; skip))
      all_goals exact ⟨rfl, rfl, (HI.out.below _ _ _ _ _ HI.out.st).trans hb2⟩
    · obtain ⟨Ob, hI⟩ := HAB.out
      have nm : (((w.alloc (.cells #[.int .i64 T.kind, .int .i64 T.num, .string T.name, .slice (some ⟨g, off, none⟩) T.len cap] 30)).alloc (.cells #[.int .i64 A.kind, .int .i64 A.num, .string A.name, .slice a0 A.len q0] 30)).alloc (.cells #[.int .i64 B.kind, .int .i64 B.num, .string B.name, .slice a1 B.len q1] 30)).drew.cell? ⟨w.heap.size, 2, none⟩ = some (.string T.name) := by simp [go_sem]
      generalize (((w.alloc (.cells #[.int .i64 T.kind, .int .i64 T.num, .string T.name, .slice (some ⟨g, off, none⟩) T.len cap] 30)).alloc (.cells #[.int .i64 A.kind, .int .i64 A.num, .string A.name, .slice a0 A.len q0] 30)).alloc (.cells #[.int .i64 B.kind, .int .i64 B.num, .string B.name, .slice a1 B.len q1] 30)).drew = X at *
      generalize ((w.alloc (.cells #[.int .i64 T.kind, .int .i64 T.num, .string T.name, .slice (some ⟨g, off, none⟩) T.len cap] 30)).alloc (.cells #[.int .i64 A.kind, .int .i64 A.num, .string A.name, .slice a0 A.len q0] 30)).alloc (.cells #[.int .i64 B.kind, .int .i64 B.num, .string B.name, .slice a1 B.len q1] 30) = Bs at *
      clear hgw1 hgw2 hgn1 hgn2 HAB HBA
      generalize w.heap.size + 1 + 1 = rb at *
      generalize w.heap.size + 1 = lb at *
      have HI := hid_mk hI
      obtain ⟨l0, l1, l2, l3⟩ := hI.lc _ _ _ _ _ hI.st
      obtain ⟨r0, r1, r2, r3⟩ := hI.rc _ _ _ _ _ hI.st
      clear hI
      rcases HD.out with ⟨n1, rfl, rfl⟩ | ⟨n1, n2, rfl, rfl⟩ | ⟨n1, n2, n3, rfl, rfl⟩ | ⟨n1, n2, n3, n4, rfl, rfl⟩ | ⟨n1, n2, n3, n4, n5, rfl, rfl⟩ | ⟨n1, n2, n3, n4, n5, n6, rfl, rfl⟩ | ⟨n1, n2, n3, n4, n5, n6, rfl, rfl⟩
      all_goals go_wp2_with (first
        | (go_at_call 109; refine (ansE (HW0.out Bs Ob _ _ _ HI.out.st (HI.out.below _ _ _ _ _ HI.out.st) HF0.out) HM.out).mono ?_; rintro e w2 ⟨rfl, hb2⟩; skip))
      all_goals exact ⟨rfl, rfl, (HI.out.below _ _ _ _ _ HI.out.st).trans hb2⟩
  | ok s1 =>
    have HM := hid_mk hM
    clear hM
    rw [CR.bind_ok]
    cases hM2 : wantM (exT K.F B) side s1 with
    | error p =>
      have HM2 := hid_mk hM2
      clear hM2
      rw [CR.bind_error]
      have P1 : Hid True := trivial
      go_enter Tryz.func130, Tryz.ntmps130
      go_wp2
      go_region_held3 (fun W => W.cell? ⟨w.heap.size, 2, none⟩ = some (.string T.name) ∧ W.cell? ⟨w.heap.size, 3, none⟩ = some (.slice (some ⟨g, off, none⟩) T.len cap) ∧ W.cell? ⟨g, off, none⟩ = some (.int .i64 A.kind) ∧ W.cell? ⟨g, off + 1, none⟩ = some (.int .i64 A.num) ∧ W.cell? ⟨g, off + 2, none⟩ = some (.string A.name) ∧ W.cell? ⟨g, off + 3, none⟩ = some (.slice a0 A.len q0) ∧ W.cell? ⟨g, off + 4, none⟩ = some (.int .i64 B.kind) ∧ W.cell? ⟨g, off + 4 + 1, none⟩ = some (.int .i64 B.num) ∧ W.cell? ⟨g, off + 4 + 2, none⟩ = some (.string B.name) ∧ W.cell? ⟨g, off + 4 + 3, none⟩ = some (.slice a1 B.len q1)) (go_keep) (fail)
      clear c00 c01 c02 c03 c10 c11 c12 c13 d00 d01 d02 d03 d10 d11 d12 d13
      rotate_left
      · obtain ⟨Ob, hI⟩ := HBA.out
        have nm : (((w.alloc (.cells #[.int .i64 T.kind, .int .i64 T.num, .string T.name, .slice (some ⟨g, off, none⟩) T.len cap] 30)).alloc (.cells #[.int .i64 B.kind, .int .i64 B.num, .string B.name, .slice a1 B.len q1] 30)).alloc (.cells #[.int .i64 A.kind, .int .i64 A.num, .string A.name, .slice a0 A.len q0] 30)).drew.cell? ⟨w.heap.size, 2, none⟩ = some (.string T.name) := by simp [go_sem]
        generalize (((w.alloc (.cells #[.int .i64 T.kind, .int .i64 T.num, .string T.name, .slice (some ⟨g, off, none⟩) T.len cap] 30)).alloc (.cells #[.int .i64 B.kind, .int .i64 B.num, .string B.name, .slice a1 B.len q1] 30)).alloc (.cells #[.int .i64 A.kind, .int .i64 A.num, .string A.name, .slice a0 A.len q0] 30)).drew = X at *
        generalize ((w.alloc (.cells #[.int .i64 T.kind, .int .i64 T.num, .string T.name, .slice (some ⟨g, off, none⟩) T.len cap] 30)).alloc (.cells #[.int .i64 B.kind, .int .i64 B.num, .string B.name, .slice a1 B.len q1] 30)).alloc (.cells #[.int .i64 A.kind, .int .i64 A.num, .string A.name, .slice a0 A.len q0] 30) = Bs at *
        clear hgw1 hgw2 hgn1 hgn2 HAB HBA
        generalize w.heap.size + 1 + 1 = lb at *
        generalize w.heap.size + 1 = rb at *
        have HI := hid_mk hI
        obtain ⟨l0, l1, l2, l3⟩ := hI.lc _ _ _ _ _ hI.st
        obtain ⟨r0, r1, r2, r3⟩ := hI.rc _ _ _ _ _ hI.st
        clear hI
        rcases HD.out with ⟨n1, rfl, rfl⟩ | ⟨n1, n2, rfl, rfl⟩ | ⟨n1, n2, n3, rfl, rfl⟩ | ⟨n1, n2, n3, n4, rfl, rfl⟩ | ⟨n1, n2, n3, n4, n5, rfl, rfl⟩ | ⟨n1, n2, n3, n4, n5, n6, rfl, rfl⟩ | ⟨n1, n2, n3, n4, n5, n6, rfl, rfl⟩
        all_goals go_wp2_with (first
          | (clear P1; go_at_call 109; refine (ansO (HW0.out Bs Ob _ _ _ HI.out.st (HI.out.below _ _ _ _ _ HI.out.st) HF0.out) HM.out).mono ?_; rintro e w2 ⟨rfl, hs2⟩; obtain ⟨r0, r1, r2, r3⟩ := HI.out.rc _ _ _ _ _ hs2; have HS2 := hid_mk hs2; clear hs2)
          | (go_at_call 109; refine (ansE (HW1.out Bs Ob _ _ _ HS2.out (HI.out.below _ _ _ _ _ HS2.out) (HF1.out _ (HXL.out _ HM.out))) HM2.out).mono ?_; rintro e w3 ⟨rfl, hb3⟩; skip))
        all_goals exact ⟨rfl, rfl, (HI.out.below _ _ _ _ _ HS2.out).trans hb3⟩
      · obtain ⟨Ob, hI⟩ := HAB.out
        have nm : (((w.alloc (.cells #[.int .i64 T.kind, .int .i64 T.num, .string T.name, .slice (some ⟨g, off, none⟩) T.len cap] 30)).alloc (.cells #[.int .i64 A.kind, .int .i64 A.num, .string A.name, .slice a0 A.len q0] 30)).alloc (.cells #[.int .i64 B.kind, .int .i64 B.num, .string B.name, .slice a1 B.len q1] 30)).drew.cell? ⟨w.heap.size, 2, none⟩ = some (.string T.name) := by simp [go_sem]
        generalize (((w.alloc (.cells #[.int .i64 T.kind, .int .i64 T.num, .string T.name, .slice (some ⟨g, off, none⟩) T.len cap] 30)).alloc (.cells #[.int .i64 A.kind, .int .i64 A.num, .string A.name, .slice a0 A.len q0] 30)).alloc (.cells #[.int .i64 B.kind, .int .i64 B.num, .string B.name, .slice a1 B.len q1] 30)).drew = X at *
        generalize ((w.alloc (.cells #[.int .i64 T.kind, .int .i64 T.num, .string T.name, .slice (some ⟨g, off, none⟩) T.len cap] 30)).alloc (.cells #[.int .i64 A.kind, .int .i64 A.num, .string A.name, .slice a0 A.len q0] 30)).alloc (.cells #[.int .i64 B.kind, .int .i64 B.num, .string B.name, .slice a1 B.len q1] 30) = Bs at *
        clear hgw1 hgw2 hgn1 hgn2 HAB HBA
        generalize w.heap.size + 1 + 1 = rb at *
        generalize w.heap.size + 1 = lb at *
        have HI := hid_mk hI
        obtain ⟨l0, l1, l2, l3⟩ := hI.lc _ _ _ _ _ hI.st
        obtain ⟨r0, r1, r2, r3⟩ := hI.rc _ _ _ _ _ hI.st
        clear hI
        rcases HD.out with ⟨n1, rfl, rfl⟩ | ⟨n1, n2, rfl, rfl⟩ | ⟨n1, n2, n3, rfl, rfl⟩ | ⟨n1, n2, n3, n4, rfl, rfl⟩ | ⟨n1, n2, n3, n4, n5, rfl, rfl⟩ | ⟨n1, n2, n3, n4, n5, n6, rfl, rfl⟩ | ⟨n1, n2, n3, n4, n5, n6, rfl, rfl⟩
        all_goals go_wp2_with (first
          | (clear P1; go_at_call 109; refine (ansO (HW0.out Bs Ob _ _ _ HI.out.st (HI.out.below _ _ _ _ _ HI.out.st) HF0.out) HM.out).mono ?_; rintro e w2 ⟨rfl, hs2⟩; obtain ⟨r0, r1, r2, r3⟩ := HI.out.rc _ _ _ _ _ hs2; have HS2 := hid_mk hs2; clear hs2)
          | (go_at_call 109; refine (ansE (HW1.out Bs Ob _ _ _ HS2.out (HI.out.below _ _ _ _ _ HS2.out) (HF1.out _ (HXL.out _ HM.out))) HM2.out).mono ?_; rintro e w3 ⟨rfl, hb3⟩; skip))
        all_goals exact ⟨rfl, rfl, (HI.out.below _ _ _ _ _ HS2.out).trans hb3⟩
    | ok s2 =>
      have HM2 := hid_mk hM2
      clear hM2
      rw [CR.bind_ok]
      have P1 : Hid True := trivial
      go_enter Tryz.func130, Tryz.ntmps130
      go_wp2
      go_region_held3 (fun W => W.cell? ⟨w.heap.size, 2, none⟩ = some (.string T.name) ∧ W.cell? ⟨w.heap.size, 3, none⟩ = some (.slice (some ⟨g, off, none⟩) T.len cap) ∧ W.cell? ⟨g, off, none⟩ = some (.int .i64 A.kind) ∧ W.cell? ⟨g, off + 1, none⟩ = some (.int .i64 A.num) ∧ W.cell? ⟨g, off + 2, none⟩ = some (.string A.name) ∧ W.cell? ⟨g, off + 3, none⟩ = some (.slice a0 A.len q0) ∧ W.cell? ⟨g, off + 4, none⟩ = some (.int .i64 B.kind) ∧ W.cell? ⟨g, off + 4 + 1, none⟩ = some (.int .i64 B.num) ∧ W.cell? ⟨g, off + 4 + 2, none⟩ = some (.string B.name) ∧ W.cell? ⟨g, off + 4 + 3, none⟩ = some (.slice a1 B.len q1)) (go_keep) (fail)
      clear c00 c01 c02 c03 c10 c11 c12 c13 d00 d01 d02 d03 d10 d11 d12 d13
      rotate_left
      · obtain ⟨Ob, hI⟩ := HBA.out
        have nm : (((w.alloc (.cells #[.int .i64 T.kind, .int .i64 T.num, .string T.name, .slice (some ⟨g, off, none⟩) T.len cap] 30)).alloc (.cells #[.int .i64 B.kind, .int .i64 B.num, .string B.name, .slice a1 B.len q1] 30)).alloc (.cells #[.int .i64 A.kind, .int .i64 A.num, .string A.name, .slice a0 A.len q0] 30)).drew.cell? ⟨w.heap.size, 2, none⟩ = some (.string T.name) := by simp [go_sem]
        generalize (((w.alloc (.cells #[.int .i64 T.kind, .int .i64 T.num, .string T.name, .slice (some ⟨g, off, none⟩) T.len cap] 30)).alloc (.cells #[.int .i64 B.kind, .int .i64 B.num, .string B.name, .slice a1 B.len q1] 30)).alloc (.cells #[.int .i64 A.kind, .int .i64 A.num, .string A.name, .slice a0 A.len q0] 30)).drew = X at *
        generalize ((w.alloc (.cells #[.int .i64 T.kind, .int .i64 T.num, .string T.name, .slice (some ⟨g, off, none⟩) T.len cap] 30)).alloc (.cells #[.int .i64 B.kind, .int .i64 B.num, .string B.name, .slice a1 B.len q1] 30)).alloc (.cells #[.int .i64 A.kind, .int .i64 A.num, .string A.name, .slice a0 A.len q0] 30) = Bs at *
        clear hgw1 hgw2 hgn1 hgn2 HAB HBA
        generalize w.heap.size + 1 + 1 = lb at *
        generalize w.heap.size + 1 = rb at *
        have HI := hid_mk hI
        obtain ⟨l0, l1, l2, l3⟩ := hI.lc _ _ _ _ _ hI.st
        obtain ⟨r0, r1, r2, r3⟩ := hI.rc _ _ _ _ _ hI.st
        clear hI
        rcases HD.out with ⟨n1, rfl, rfl⟩ | ⟨n1, n2, rfl, rfl⟩ | ⟨n1, n2, n3, rfl, rfl⟩ | ⟨n1, n2, n3, n4, rfl, rfl⟩ | ⟨n1, n2, n3, n4, n5, rfl, rfl⟩ | ⟨n1, n2, n3, n4, n5, n6, rfl, rfl⟩ | ⟨n1, n2, n3, n4, n5, n6, rfl, rfl⟩
        all_goals go_wp2_with (first
          | (clear P1; go_at_call 109; refine (ansO (HW0.out Bs Ob _ _ _ HI.out.st (HI.out.below _ _ _ _ _ HI.out.st) HF0.out) HM.out).mono ?_; rintro e w2 ⟨rfl, hs2⟩; obtain ⟨r0, r1, r2, r3⟩ := HI.out.rc _ _ _ _ _ hs2; have HS2 := hid_mk hs2; clear hs2)
          | (go_at_call 109; refine (ansO (HW1.out Bs Ob _ _ _ HS2.out (HI.out.below _ _ _ _ _ HS2.out) (HF1.out _ (HXL.out _ HM.out))) HM2.out).mono ?_; rintro e w3 ⟨rfl, hs3⟩; have HS3 := hid_mk hs3; clear hs3))
        all_goals go_ret
        all_goals exact ⟨rfl, HI.out.back _ _ _ _ _ HS3.out⟩
      · obtain ⟨Ob, hI⟩ := HAB.out
        have nm : (((w.alloc (.cells #[.int .i64 T.kind, .int .i64 T.num, .string T.name, .slice (some ⟨g, off, none⟩) T.len cap] 30)).alloc (.cells #[.int .i64 A.kind, .int .i64 A.num, .string A.name, .slice a0 A.len q0] 30)).alloc (.cells #[.int .i64 B.kind, .int .i64 B.num, .string B.name, .slice a1 B.len q1] 30)).drew.cell? ⟨w.heap.size, 2, none⟩ = some (.string T.name) := by simp [go_sem]
        generalize (((w.alloc (.cells #[.int .i64 T.kind, .int .i64 T.num, .string T.name, .slice (some ⟨g, off, none⟩) T.len cap] 30)).alloc (.cells #[.int .i64 A.kind, .int .i64 A.num, .string A.name, .slice a0 A.len q0] 30)).alloc (.cells #[.int .i64 B.kind, .int .i64 B.num, .string B.name, .slice a1 B.len q1] 30)).drew = X at *
        generalize ((w.alloc (.cells #[.int .i64 T.kind, .int .i64 T.num, .string T.name, .slice (some ⟨g, off, none⟩) T.len cap] 30)).alloc (.cells #[.int .i64 A.kind, .int .i64 A.num, .string A.name, .slice a0 A.len q0] 30)).alloc (.cells #[.int .i64 B.kind, .int .i64 B.num, .string B.name, .slice a1 B.len q1] 30) = Bs at *
        clear hgw1 hgw2 hgn1 hgn2 HAB HBA
        generalize w.heap.size + 1 + 1 = rb at *
        generalize w.heap.size + 1 = lb at *
        have HI := hid_mk hI
        obtain ⟨l0, l1, l2, l3⟩ := hI.lc _ _ _ _ _ hI.st
        obtain ⟨r0, r1, r2, r3⟩ := hI.rc _ _ _ _ _ hI.st
        clear hI
        rcases HD.out with ⟨n1, rfl, rfl⟩ | ⟨n1, n2, rfl, rfl⟩ | ⟨n1, n2, n3, rfl, rfl⟩ | ⟨n1, n2, n3, n4, rfl, rfl⟩ | ⟨n1, n2, n3, n4, n5, rfl, rfl⟩ | ⟨n1, n2, n3, n4, n5, n6, rfl, rfl⟩ | ⟨n1, n2, n3, n4, n5, n6, rfl, rfl⟩
        all_goals go_wp2_with (first
          | (clear P1; go_at_call 109; refine (ansO (HW0.out Bs Ob _ _ _ HI.out.st (HI.out.below _ _ _ _ _ HI.out.st) HF0.out) HM.out).mono ?_; rintro e w2 ⟨rfl, hs2⟩; obtain ⟨r0, r1, r2, r3⟩ := HI.out.rc _ _ _ _ _ hs2; have HS2 := hid_mk hs2; clear hs2)
          | (go_at_call 109; refine (ansO (HW1.out Bs Ob _ _ _ HS2.out (HI.out.below _ _ _ _ _ HS2.out) (HF1.out _ (HXL.out _ HM.out))) HM2.out).mono ?_; rintro e w3 ⟨rfl, hs3⟩; have HS3 := hid_mk hs3; clear hs3))
        all_goals go_ret
        all_goals exact ⟨rfl, HI.out.back _ _ _ _ _ HS3.out⟩

end Go.Proofs.YtbjianmjdadehaaGreatDoor
