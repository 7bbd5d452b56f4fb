/- The program's Differ: what a round keeps. -/
import Derived.Test.YtdcpmkhebfcfgaaDoorLeB
import Derived.Test.YtdcpmkhebfcfgaaDoorLeC
import Derived.Test.YtdcpmkhebfcfgaaDoorLeF
import Derived.Test.YtdcpmkhebfcfgaaDoorLcD
import Derived.Test.YtdcpmkhebfcfgaaDoorLcB
import Derived.Test.YtdcpmkhebfcfgaaDoorLdA
import Derived.Test.YtdcpmkhebfcfgaaDoorLeD
set_option linter.unusedVariables false
namespace Go.Proofs.YtdcpmkhebfcfgaaDoor
open Go.RowKit

theorem box_two (W : World) (b : Nat) (x0 x1 x2 x3 y0 y1 y2 y3 : Value) (hx : ∀ k, k < 4 → ∃ y, W.cell? ⟨b, k, none⟩ = some y) (hy : ∀ k, k < 4 → ∃ y, W.cell? ⟨b + 1, k, none⟩ = some y) :
    let V := (((((((W.setCell ⟨b, 0, none⟩ x0).setCell ⟨b, 1, none⟩ x1).setCell ⟨b, 2, none⟩ x2).setCell ⟨b, 3, none⟩ x3).setCell ⟨b + 1, 0, none⟩ y0).setCell ⟨b + 1, 1, none⟩ y1).setCell ⟨b + 1, 2, none⟩ y2).setCell ⟨b + 1, 3, none⟩ y3
    (V.cell? ⟨b, 0, none⟩ = some x0 ∧ V.cell? ⟨b, 1, none⟩ = some x1 ∧ V.cell? ⟨b, 2, none⟩ = some x2 ∧ V.cell? ⟨b, 3, none⟩ = some x3) ∧
    (V.cell? ⟨b + 1, 0, none⟩ = some y0 ∧ V.cell? ⟨b + 1, 1, none⟩ = some y1 ∧ V.cell? ⟨b + 1, 2, none⟩ = some y2 ∧ V.cell? ⟨b + 1, 3, none⟩ = some y3) ∧
    V.heap.size = W.heap.size ∧ (∀ g o, V.frozen? ⟨g, o, none⟩ = W.frozen? ⟨g, o, none⟩) ∧ Below b W V := by
  intro V
  have hs := store4 W b 0 x0 x1 x2 x3 (fun k hk => by rw [Nat.zero_add]; exact hx k hk)
  simp only [Nat.zero_add] at hs
  obtain ⟨p0, p1, p2, p3, _, po, ps, pf⟩ := hs
  have hbW : Below b W ((((W.setCell ⟨b, 0, none⟩ x0).setCell ⟨b, 1, none⟩ x1).setCell ⟨b, 2, none⟩ x2).setCell ⟨b, 3, none⟩ x3) :=
    ((((Below.refl b W).setCell (p := ⟨b, 0, none⟩) (Nat.le_refl _) x0).setCell (p := ⟨b, 1, none⟩) (Nat.le_refl _) x1).setCell (p := ⟨b, 2, none⟩) (Nat.le_refl _) x2).setCell (p := ⟨b, 3, none⟩) (Nat.le_refl _) x3
  have hq := store4 ((((W.setCell ⟨b, 0, none⟩ x0).setCell ⟨b, 1, none⟩ x1).setCell ⟨b, 2, none⟩ x2).setCell ⟨b, 3, none⟩ x3) (b + 1) 0 y0 y1 y2 y3 (fun k hk => by
    rw [Nat.zero_add, World.cell?_of_block (a := ⟨b + 1, k, none⟩) (po (b + 1) (by omega))]; exact hy k hk)
  simp only [Nat.zero_add] at hq
  obtain ⟨q0, q1, q2, q3, _, qo, qs, qf⟩ := hq
  have hc : ∀ k, V.cell? ⟨b, k, none⟩ = ((((W.setCell ⟨b, 0, none⟩ x0).setCell ⟨b, 1, none⟩ x1).setCell ⟨b, 2, none⟩ x2).setCell ⟨b, 3, none⟩ x3).cell? ⟨b, k, none⟩ := fun k => World.cell?_of_block (a := ⟨b, k, none⟩) (qo b (by omega))
  refine ⟨⟨(hc 0).trans p0, (hc 1).trans p1, (hc 2).trans p2, (hc 3).trans p3⟩, ⟨q0, q1, q2, q3⟩, qs.trans ps, fun g o => by simp [V, go_sem], ?_⟩
  exact (((hbW.setCell (p := ⟨b + 1, 0, none⟩) (by show b ≤ b + 1; omega) y0).setCell (p := ⟨b + 1, 1, none⟩) (by show b ≤ b + 1; omega) y1).setCell (p := ⟨b + 1, 2, none⟩) (by show b ≤ b + 1; omega) y2).setCell (p := ⟨b + 1, 3, none⟩) (by show b ≤ b + 1; omega) y3

structure DfI (a b : Nd) (w : World) (hi at' : Nat) (A B : Nd) (u v : Value) (wr : World) : Prop where
  below : Below w.heap.size w wr
  size : w.heap.size + 1 + 1 ≤ wr.heap.size
  fa : A.Fine
  fb : B.Fine
  cost : A.cost ≤ 1048576
  boxA : wr.cell? ⟨w.heap.size, 0, none⟩ = some (.int .i64 A.kind) ∧ wr.cell? ⟨w.heap.size, 1, none⟩ = some (.int .i64 A.num) ∧ wr.cell? ⟨w.heap.size, 2, none⟩ = some (.string A.name) ∧ wr.cell? ⟨w.heap.size, 3, none⟩ = some u
  boxB : wr.cell? ⟨w.heap.size + 1, 0, none⟩ = some (.int .i64 B.kind) ∧ wr.cell? ⟨w.heap.size + 1, 1, none⟩ = some (.int .i64 B.num) ∧ wr.cell? ⟨w.heap.size + 1, 2, none⟩ = some (.string B.name) ∧ wr.cell? ⟨w.heap.size + 1, 3, none⟩ = some v
  rowA : Row 0 hi wr A u
  rowB : Row 0 hi wr B v
  warmA : ∀ o, wr.frozen? ⟨w.heap.size, o, none⟩ = false
  warmB : ∀ o, wr.frozen? ⟨w.heap.size + 1, o, none⟩ = false
  ns : sameB A B = false
  eq : diffT A B at' = diffT a b 0
  room : at' + A.size ≤ a.size
theorem DfI.later {a b : Nd} {w : World} {hi at' : Nat} {A B : Nd} {u v : Value} {wr wr' : World} (h : DfI a b w hi at' A B u v wr) (hhi : hi ≤ w.heap.size) (hb : Below wr.heap.size wr wr') : DfI a b w hi at' A B u v wr' := by
  have hs := h.size
  have hz := hb.size
  obtain ⟨hc, hf⟩ := bcellO hb
  obtain ⟨a0, a1, a2, a3⟩ := h.boxA
  obtain ⟨b0, b1, b2, b3⟩ := h.boxB
  exact ⟨h.below.trans (hb.mono (by omega)), by omega, h.fa, h.fb, h.cost, ⟨(hc _ _ (by omega)).trans a0, (hc _ _ (by omega)).trans a1, (hc _ _ (by omega)).trans a2, (hc _ _ (by omega)).trans a3⟩,
    ⟨(hc _ _ (by omega)).trans b0, (hc _ _ (by omega)).trans b1, (hc _ _ (by omega)).trans b2, (hc _ _ (by omega)).trans b3⟩, row_below hb (by omega) h.rowA, row_below hb (by omega) h.rowB,
    fun o => (hf _ o (by omega)).trans (h.warmA o), fun o => (hf _ o (by omega)).trans (h.warmB o), h.ns, h.eq, h.room⟩

theorem DfI.down {a b : Nd} {w : World} {hi at' : Nat} {A B : Nd} {u v : Value} {wr : World} (h : DfI a b w hi at' A B u v wr) (hhi : hi ≤ w.heap.size) {i : Nat} (hA : i < A.len) (hB : i < B.len) (hns : sameB (A.kids i) (B.kids i) = false)
    (heq : diffT A B at' = diffT (A.kids i) (B.kids i) (kidAt A at' i)) {x y : Value} (hx : Row 0 hi wr (A.kids i) x) (hy : Row 0 hi wr (B.kids i) y) :
    DfI a b w hi (kidAt A at' i) (A.kids i) (B.kids i) x y ((((((((wr.drew.setCell ⟨w.heap.size, 0, none⟩ (.int .i64 (A.kids i).kind)).setCell ⟨w.heap.size, 1, none⟩ (.int .i64 (A.kids i).num)).setCell ⟨w.heap.size, 2, none⟩ (.string (A.kids i).name)).setCell ⟨w.heap.size, 3, none⟩ x).setCell ⟨w.heap.size + 1, 0, none⟩ (.int .i64 (B.kids i).kind)).setCell ⟨w.heap.size + 1, 1, none⟩ (.int .i64 (B.kids i).num)).setCell ⟨w.heap.size + 1, 2, none⟩ (.string (B.kids i).name)).setCell ⟨w.heap.size + 1, 3, none⟩ y) := by
  obtain ⟨a0, a1, a2, a3⟩ := h.boxA
  obtain ⟨b0, b1, b2, b3⟩ := h.boxB
  obtain ⟨q1, q2, q3, q4, q5⟩ := box_two wr.drew w.heap.size (.int .i64 (A.kids i).kind) (.int .i64 (A.kids i).num) (.string (A.kids i).name) x (.int .i64 (B.kids i).kind) (.int .i64 (B.kids i).num) (.string (B.kids i).name) y
    (fun k hk => by
      have : k = 0 ∨ k = 1 ∨ k = 2 ∨ k = 3 := by omega
      rcases this with rfl | rfl | rfl | rfl
      · exact ⟨_, a0⟩
      · exact ⟨_, a1⟩
      · exact ⟨_, a2⟩
      · exact ⟨_, a3⟩)
    (fun k hk => by
      have : k = 0 ∨ k = 1 ∨ k = 2 ∨ k = 3 := by omega
      rcases this with rfl | rfl | rfl | rfl
      · exact ⟨_, b0⟩
      · exact ⟨_, b1⟩
      · exact ⟨_, b2⟩
      · exact ⟨_, b3⟩)
  refine ⟨h.below.drew.trans q5, by rw [q3]; exact h.size, Nd.fine_kid h.fa hA, Nd.fine_kid h.fb hB, Nat.le_trans (A.cost_kid hA) h.cost, q1, q2, row_below q5 hhi (row_drew hx), row_below q5 hhi (row_drew hy),
    fun o => (q4 _ o).trans (h.warmA o), fun o => (q4 _ o).trans (h.warmB o), hns, heq.symm.trans h.eq, ?_⟩
  have := kidAt_le A at' hA
  have := h.room
  omega

end Go.Proofs.YtdcpmkhebfcfgaaDoor
namespace Go.Proofs.YtdcpmkhebfcfgaaDoor
open Go.RowKit

set_option maxHeartbeats 8000000 in
set_option maxRecDepth 100000 in
theorem impl_differ_go (a b : Nd) (w : World) (u v : Value) (hi : Nat) (hfa : a.Fine) (hfb : b.Fine) (hhi : hi ≤ w.heap.size) (hru : Row 0 hi w a u) (hrv : Row 0 hi w b v) (hc : a.cost ≤ 1048576) (hcb : b.cost ≤ 1048576) (ht : Tabs w)
    (ha : treeB a = true) (hb : treeB b = true) (hs : sameB a b = false) :
    Calls Tryd.prog 12 #[a.val u, b.val v] w fun e w' => e = .returned (.tuple #[.int .i64 (diffT a b 0), .int .i64 0]) ∧ Below w.heap.size w w' := by
  obtain ⟨p, cu, rfl, -, -⟩ := row_eq.1 hru
  obtain ⟨q, cv, rfl, -, -⟩ := row_eq.1 hrv
  have HTA := hid_mk (fun W (hb : Below w.heap.size w W) => by
    have := impl_tree a W (.slice p a.len cu) hfa (row_wide (row_below hb hhi hru) (Nat.le_refl _) (Nat.le_trans hhi hb.size)) hc (tabs_below ht hb)
    rw [tree_one, ha] at this; exact this)
  have HTB := hid_mk (fun W (hb' : Below w.heap.size w W) => by
    have := impl_tree b W (.slice q b.len cv) hfb (row_wide (row_below hb' hhi hrv) (Nat.le_refl _) (Nat.le_trans hhi hb'.size)) hcb (tabs_below ht hb')
    rw [tree_one, hb] at this; exact this)
  have HSM := hid_mk (fun W (hb : Below w.heap.size w W) => by
    have := same_any a b W _ _ hi hfa hfb (Nat.le_trans hhi hb.size) (row_below hb hhi hru) (row_below hb hhi hrv)
    rw [hs] at this; exact this)
  have hsc := a.size_cost
  have HB : ∀ x y : Obj, Hid (Below w.heap.size w ((w.alloc x).alloc y)) := fun a b => ((Below.refl _ _).alloc (Nat.le_refl _) _).alloc (by simp) _
  have P1 := hid_mk True.intro
  have HI0 : Hid (∀ W : World, Below (w.heap.size + 1 + 1) ((w.alloc (.cells #[.int .i64 a.kind, .int .i64 a.num, .string a.name, .slice p a.len cu] 29)).alloc (.cells #[.int .i64 b.kind, .int .i64 b.num, .string b.name, .slice q b.len cv] 29)) W → DfI a b w hi 0 a b (.slice p a.len cu) (.slice q b.len cv) W) := by
    intro W hW
    refine DfI.later (wr := (w.alloc (.cells #[.int .i64 a.kind, .int .i64 a.num, .string a.name, .slice p a.len cu] 29)).alloc (.cells #[.int .i64 b.kind, .int .i64 b.num, .string b.name, .slice q b.len cv] 29)) ?_ hhi (by simpa using hW)
    exact ⟨(HB _ _).out, by simp, hfa, hfb, hc, by simp [go_sem], by simp [go_sem], row_below (HB _ _).out hhi hru, row_below (HB _ _).out hhi hrv, fun o => by simp [go_sem], fun o => by simp [go_sem], hs, rfl, by omega⟩
  have HON := hid_mk only_any
  unfold Nd.val at HON
  have HSZ := hid_mk impl_size
  unfold Nd.val at HSZ
  unfold Nd.val at HTA HTB HSM ⊢
  clear hru hrv hfa hfb ht
  go_enter Tryd.func12, Tryd.ntmps12
  go_wp2_with (first
    | (clear P1; go_at_call 9; refine (HTA.out _ (HB _ _).out).mono ?_; rintro e w1 ⟨rfl, hb1⟩; obtain ⟨c1, f1⟩ := bcellO hb1; have HB1 := hid_mk ((HB _ _).out.trans (hb1.mono (by simp; omega))); have hz1 : w.heap.size + 1 + 1 ≤ w1.heap.size := (by have := hb1.size; simpa using this); have hz1a : w.heap.size < w1.heap.size := (by omega); have hz1b : w.heap.size + 1 < w1.heap.size := (by omega))
    | (go_at_call 9; refine (HTB.out _ HB1.out).mono ?_; rintro e w2 ⟨rfl, hb2⟩; obtain ⟨c2, f2⟩ := bcellO hb2; have HB2 := hid_mk (HB1.out.trans (hb2.mono (by omega))); have hz2 := hb2.size; have hz2a : w.heap.size < w2.heap.size := (by omega); have hz2b : w.heap.size + 1 < w2.heap.size := (by omega))
    | (go_at_call 26; refine (HSM.out _ HB2.out).mono ?_; rintro e w3 ⟨rfl, hb3⟩; have hz3 := hb3.size; have HI3 := hid_mk (HI0.out w3 (by simp only [World.size_alloc] at hb1; exact hb1.trans ((hb2.mono hz1).trans (hb3.mono (by omega))))); obtain ⟨c3, f3⟩ := bcellO hb3)
    | (go_at_call 27; refine (HON.out a b _ _ _ hi HI3.out.fa HI3.out.fb (by omega) HI3.out.rowA HI3.out.rowB).mono ?_; rintro e w4 ⟨rfl, hb4⟩; have HI4 := hid_mk (HI3.out.later hhi hb4)))
  clear c1 f1 c2 f2 c3 f3 hb1 hb2 hb3 hb4 HTA HTB HSM HI0 HI3 HB HB1 HB2 hz1 hz1a hz1b hz2 hz2a hz2b hz3 ha hb hs
  go_loopw [6, 7] (fun at1 pl wr => ∃ (n : Nat) (A B : Nd) (x y : Value), at1 = .int .i64 n ∧ pl = .int .i64 (onlyT A B) ∧ DfI a b w hi n A B x y wr) (fun at1 _ _ => a.size - (intOf at1).toNat)
  case atStart => exact ⟨0, a, b, _, _, rfl, rfl, HI4.out⟩
  case round =>
    obtain ⟨n, A, B, x, y, rfl, rfl, hI⟩ := hrel
    have HI := hid_mk hI
    clear HI4
    rcases only_step A B n hI.ns with ⟨h1, h2⟩ | ⟨i, h1, hiA, hiB, hns, heq⟩
    · rw [h1]
      have HE := hid_mk (hI.eq.symm.trans h2)
      clear h1 h2 hI
      go_wp2
      go_ret2
      refine ⟨?_, HI.out.below⟩
      rw [HE.out]
      rfl
    · rw [h1]
      have HNS := hid_mk hns
      have HEQ := hid_mk heq
      have hi1 : ((i : Int) != -1) = true := by simp
      have hroom := hI.room
      have hkl := kidAt_le A n hiA
      have hsz0 : 0 < (A.kids i).size := by rw [Nd.size_eq]; omega
      have hk0 := kidAt_0 A n
      obtain ⟨xa, xc, rfl, hcx, hqx⟩ := row_eq.1 hI.rowA
      obtain ⟨ya, yc, rfl, hcy, hqy⟩ := row_eq.1 hI.rowB
      have hla := A.fine_len hI.fa
      have hlb := B.fine_len hI.fb
      have hics : (i : Int) ≤ (xc : Int) := by omega
      have hicn : i ≤ xc := by omega
      rcases hqx with h0 | ⟨g, off, rfl, g1, g2, g3⟩
      · omega
      rcases hqy with h0 | ⟨g', off', rfl, g1', g2', g3'⟩
      · omega
      have HG := hid_mk g3
      have HG' := hid_mk g3'
      obtain ⟨a0, a1, a2, a3⟩ := hI.boxA
      have hsw := hI.size
      have HKL : Hid (∀ j, j < i → kidAt A n (j + 1) = kidAt A n j + (A.kids j).size ∧ kidAt A n j + (A.kids j).size ≤ n + A.size ∧ (A.kids j).cost ≤ 1048576) := fun j hj => ⟨kidAt_succ A n j, kidAt_le A n (by omega), Nat.le_trans (A.cost_kid (by omega)) hI.cost⟩
      have hbnd : n + A.size ≤ 1048577 := by omega
      clear g3 g3' hns heq h1 hI
      generalize wr = wo at *
      go_wp2
      go_loopw [6, 36] (fun at1 k wr => ∃ j : Nat, j ≤ i ∧ k = .int .i64 j ∧ at1 = .int .i64 (kidAt A n j : Nat) ∧ Below wo.heap.size wo wr) (fun _ k _ => i - (intOf k).toNat)
      case atStart => exact ⟨0, Nat.zero_le _, rfl, by rw [hk0]; go_num, Below.refl _ _⟩
      case round =>
        obtain ⟨j, hj, rfl, rfl, hb⟩ := hrel
        have hbz := hb.size
        by_cases hlt : j < i
        · obtain ⟨z, e0, e1, e2, e3, hz⟩ := HG.out j (by omega)
          rw [← hb.cell (p := ⟨g, _, none⟩) (show g < wo.heap.size by omega)] at e0 e1 e2 e3
          obtain ⟨ks, kb, kc⟩ := HKL.out j hlt
          have HZ := hid_mk (row_below hb (show hi ≤ wo.heap.size by omega) hz)
          have HFK := hid_mk (Nd.fine_kid HI.out.fa (show j < A.len by omega))
          have HKS := hid_mk ks
          obtain ⟨za, zc, rfl⟩ : ∃ za zc, z = .slice za (A.kids j).len zc := by obtain ⟨a', c', h, _⟩ := row_eq.1 hz; exact ⟨a', c', h⟩
          have HBB := hid_mk hb
          have HBA : ∀ x : Obj, Hid (Below wr.heap.size wr (wr.alloc x)) := fun x => (Below.refl _ _).alloc (Nat.le_refl _) _
          have hjl : (j : Int) < (i : Int) := by omega
          clear hz ks hb hk0 hkl a0 a1 a2 a3
          have HSK := hid_mk (fun W u => HSZ.out (A.kids j) W u HFK.out)
          generalize A.kids j = K at *
          generalize kidAt A n j = kj at *
          go_wp2_with (go_at_call 28; refine (HSK.out _ _ (row_wide (row_below (HBA _).out (by omega) HZ.out) (Nat.le_refl _) (by simp; omega)) kc).mono ?_; rintro e w5 ⟨rfl, hb5⟩)
          have hb6 : Below wo.heap.size wo w5 := HBB.out.trans (((HBA _).out.trans (hb5.mono (by simp))).mono hbz)
          exact ⟨⟨j + 1, by omega, by go_num, by rw [HKS.out]; go_num, hb6⟩, by simp [intOf]; omega⟩
        · obtain rfl : j = i := by omega
          have hI2 := HI.out.later hhi hb
          obtain ⟨z, e0, e1, e2, e3, hz⟩ := HG.out j hiA
          obtain ⟨z', e0', e1', e2', e3', hz'⟩ := HG'.out j hiB
          rw [← hb.cell (p := ⟨g, _, none⟩) (show g < wo.heap.size by omega)] at e0 e1 e2 e3
          rw [← hb.cell (p := ⟨g', _, none⟩) (show g' < wo.heap.size by omega)] at e0' e1' e2' e3'
          obtain ⟨za, zc, rfl⟩ : ∃ za zc, z = .slice za (A.kids j).len zc := by obtain ⟨a', c', h, _⟩ := row_eq.1 hz; exact ⟨a', c', h⟩
          obtain ⟨za', zc', rfl⟩ : ∃ za zc, z' = .slice za (B.kids j).len zc := by obtain ⟨a', c', h, _⟩ := row_eq.1 hz'; exact ⟨a', c', h⟩
          have HD5 := hid_mk (hI2.down hhi hiA hiB HNS.out HEQ.out (row_below hb (show hi ≤ wo.heap.size by omega) hz) (row_below hb (show hi ≤ wo.heap.size by omega) hz'))
          obtain ⟨p0, p1, p2, p3⟩ := hI2.boxA
          obtain ⟨q0, q1, q2, q3⟩ := hI2.boxB
          have hwA := hI2.warmA
          have hwB := hI2.warmB
          have hiAn : (j : Int) < (A.len : Int) := by omega
          have hiBn : (j : Int) < (B.len : Int) := by omega
          have hmix : Tryd.prog.follows Departure.mixedOrders = true := by kernel_rfl
          have HHI := hid_mk hhi
          clear hI2 hz hz' a0 a1 a2 a3 HG HG' HI hhi HNS HEQ HKL
          obtain ⟨fV, hfV⟩ : ∃ f : Nat → Value, f = fun i => match i with
            | 0 => .pointer (some ⟨w.heap.size, 3, none⟩) | 1 => .slice (some ⟨g, off, none⟩) A.len xc | 2 => .int .i64 (j : Int) | 3 => .pointer (some ⟨g, off + j * 4, none⟩)
            | 4 => .agg #[.int .i64 (A.kids j).kind, .int .i64 (A.kids j).num, .string (A.kids j).name, .slice za (A.kids j).len zc]
            | 5 => .pointer (some ⟨w.heap.size + 1, 3, none⟩) | 6 => .slice (some ⟨g', off', none⟩) B.len yc | 7 => .int .i64 (j : Int) | 8 => .pointer (some ⟨g', off' + j * 4, none⟩)
            | 9 => .agg #[.int .i64 (B.kids j).kind, .int .i64 (B.kids j).num, .string (B.kids j).name, .slice za' (B.kids j).len zc'] | _ => undef := ⟨_, rfl⟩
          obtain ⟨W1, hW1⟩ : ∃ W, W = (((wr.drew.setCell ⟨w.heap.size, 0, none⟩ (.int .i64 (A.kids j).kind)).setCell ⟨w.heap.size, 1, none⟩ (.int .i64 (A.kids j).num)).setCell ⟨w.heap.size, 2, none⟩ (.string (A.kids j).name)).setCell ⟨w.heap.size, 3, none⟩ (.slice za (A.kids j).len zc) := ⟨_, rfl⟩
          obtain ⟨W2, hW2⟩ : ∃ W, W = (((W1.setCell ⟨w.heap.size + 1, 0, none⟩ (.int .i64 (B.kids j).kind)).setCell ⟨w.heap.size + 1, 1, none⟩ (.int .i64 (B.kids j).num)).setCell ⟨w.heap.size + 1, 2, none⟩ (.string (B.kids j).name)).setCell ⟨w.heap.size + 1, 3, none⟩ (.slice za' (B.kids j).len zc') := ⟨_, rfl⟩
          rw [← hW1, ← hW2] at HD5
          have f0 : fV 0 = .pointer (some ⟨w.heap.size, 3, none⟩) := congrFun hfV 0
          have f1 : fV 1 = .slice (some ⟨g, off, none⟩) A.len xc := congrFun hfV 1
          have f2 : fV 2 = .int .i64 (j : Int) := congrFun hfV 2
          have f3 : fV 3 = .pointer (some ⟨g, off + j * 4, none⟩) := congrFun hfV 3
          have f4 : fV 4 = .agg #[.int .i64 (A.kids j).kind, .int .i64 (A.kids j).num, .string (A.kids j).name, .slice za (A.kids j).len zc] := congrFun hfV 4
          have f5 : fV 5 = .pointer (some ⟨w.heap.size + 1, 3, none⟩) := congrFun hfV 5
          have f6 : fV 6 = .slice (some ⟨g', off', none⟩) B.len yc := congrFun hfV 6
          have f7 : fV 7 = .int .i64 (j : Int) := congrFun hfV 7
          have f8 : fV 8 = .pointer (some ⟨g', off' + j * 4, none⟩) := congrFun hfV 8
          have f9 : fV 9 = .agg #[.int .i64 (B.kids j).kind, .int .i64 (B.kids j).num, .string (B.kids j).name, .slice za' (B.kids j).len zc'] := congrFun hfV 9
          clear hfV
          have HWB1 : Hid (Below w.heap.size wr.drew W1) := by
            rw [hW1]
            exact ((((Below.refl _ _).setCell (p := ⟨w.heap.size, 0, none⟩) (Nat.le_refl _) _).setCell (p := ⟨w.heap.size, 1, none⟩) (Nat.le_refl _) _).setCell (p := ⟨w.heap.size, 2, none⟩) (Nat.le_refl _) _).setCell (p := ⟨w.heap.size, 3, none⟩) (Nat.le_refl _) _
          have HWO : Hid (∀ o, W1.cell? ⟨w.heap.size + 1, o, none⟩ = wr.drew.cell? ⟨w.heap.size + 1, o, none⟩) := fun o => by
            rw [hW1]
            simp [go_sem]
          have HWB : Hid (W1.cell? ⟨w.heap.size + 1, 0, none⟩ = some (.int .i64 B.kind) ∧ W1.cell? ⟨w.heap.size + 1, 1, none⟩ = some (.int .i64 B.num) ∧ W1.cell? ⟨w.heap.size + 1, 2, none⟩ = some (.string B.name) ∧ W1.cell? ⟨w.heap.size + 1, 3, none⟩ = some (.slice (some ⟨g', off', none⟩) B.len yc) ∧ ∀ o, W1.frozen? ⟨w.heap.size + 1, o, none⟩ = false) :=
            ⟨(HWO.out 0).trans q0, (HWO.out 1).trans q1, (HWO.out 2).trans q2, (HWO.out 3).trans q3, fun o => by rw [hW1]; simp [go_sem]; exact hwB o⟩
          have HW : Hid (∀ v, v = wr.drew ∨ v = W1 → v.cell? ⟨w.heap.size + 1, 3, none⟩ = some (.slice (some ⟨g', off', none⟩) B.len yc) ∧ v.cell? ⟨g', off' + j * 4, none⟩ = some (.int .i64 (B.kids j).kind) ∧ v.cell? ⟨g', off' + j * 4 + 1, none⟩ = some (.int .i64 (B.kids j).num) ∧ v.cell? ⟨g', off' + j * 4 + 2, none⟩ = some (.string (B.kids j).name) ∧ v.cell? ⟨g', off' + j * 4 + 3, none⟩ = some (.slice za' (B.kids j).len zc')) := by
            have hg' : g' < w.heap.size := by have := HHI.out; omega
            rintro v (rfl | rfl)
            · exact ⟨q3, e0', e1', e2', e3'⟩
            · exact ⟨HWB.out.2.2.2.1, (HWB1.out.cell (p := ⟨g', _, none⟩) hg').trans e0', (HWB1.out.cell (p := ⟨g', _, none⟩) hg').trans e1', (HWB1.out.cell (p := ⟨g', _, none⟩) hg').trans e2', (HWB1.out.cell (p := ⟨g', _, none⟩) hg').trans e3'⟩
          have HW1E := hid_mk hW1
          have HW2E := hid_mk hW2
          have HFV := hid_mk (show fV 0 = _ ∧ fV 1 = _ ∧ fV 2 = _ ∧ fV 3 = _ ∧ fV 4 = _ ∧ fV 5 = _ ∧ fV 6 = _ ∧ fV 7 = _ ∧ fV 8 = _ ∧ fV 9 = _ from ⟨f0, f1, f2, f3, f4, f5, f6, f7, f8, f9⟩)
          clear hW1 hW2 f0 f1 f2 f3 f4 f5 f6 f7 f8 f9
          go_wp2_with fail
          refine wp_region_inv hmix (by kernel_rfl) (fun i => (if i < 10 then 45 + i else 100 + i)) (Vf 10 fV) (S2 10 5 wr.drew W1 W2) (S2.start _ _ _ _ _ _) ?_ ?_
          · intro listed a' v i hI hr
            have hi : i < 12 := (ready_unl hr).1
            have hun := (ready_unl hr).2
            have hS := hI.s
            have hls : listed.size = 12 := hI.lsize
            have PUT := hid_mk (fun (i : Nat) (hi : i < 10) (x : Value) (hx : x = fV i) => hI.put1 (w' := v) (fun i j hi hj h => by have : i < 12 := hi; have : j < 12 := hj; have h' : (if i < 10 then 45 + i else 100 + i) = (if j < 10 then 45 + j else 100 + j) := h; split at h' <;> split at h' <;> omega) (i := i) (by show (if i < 10 then 45 + i else 100 + i) < 56; rw [if_pos hi]; omega) (fun _ _ h => h) (hS.put hi) (show i < 12 by omega) (v := x) (fun _ => hx))
            have NON := hid_mk (fun (v' : World) (hi' : 10 ≤ i) (hS' : S2 10 5 wr.drew W1 W2 (listed.setIfInBounds i true) v') => hI.none (w' := v') (fun _ _ h => h) hS' hi (fun x h => absurd h (by omega)))
            have VAL := hid_mk (fun (j : Nat) (hj : j < 10) (hl : listed.getD j false = true) => hI.vals j (show j < 12 by omega) (getD_tr hl) hj)
            have DEP := hid_mk (fun o (ho : _ = some o) => ready_dep hr (o := o) ho)
            have s2 : a'.tmps[2]?.getD undef = .pointer (some ⟨w.heap.size, 0, none⟩) := eval_getD (hI.keep 2 (by intro i hi; have : i < 12 := hi; show 2 ≠ (if i < 10 then 45 + i else 100 + i); split <;> omega))
            have s3 : a'.tmps[3]?.getD undef = .pointer (some ⟨w.heap.size + 1, 0, none⟩) := eval_getD (hI.keep 3 (by intro i hi; have : i < 12 := hi; show 3 ≠ (if i < 10 then 45 + i else 100 + i); split <;> omega))
            have s7 : a'.tmps[7]?.getD undef = .int .i64 (j : Int) := eval_getD (hI.keep 7 (by intro i hi; have : i < 12 := hi; show 7 ≠ (if i < 10 then 45 + i else 100 + i); split <;> omega))
            clear hI hr
            rcases (by omega : i = 0 ∨ i = 1 ∨ i = 2 ∨ i = 3 ∨ i = 4 ∨ i = 5 ∨ i = 6 ∨ i = 7 ∨ i = 8 ∨ i = 9 ∨ i = 10 ∨ i = 11) with rfl | rfl | rfl | rfl | rfl | rfl | rfl | rfl | rfl | rfl | rfl | rfl
            all_goals (refine wpOp_of rfl rfl ?_)
            · obtain rfl := hS.low (show 0 < 5 by omega) (by omega) hun
              go_simp
              exact PUT.out 0 (by omega) _ HFV.out.1.symm
            · have h45 := eval_getD (show a'.eval (.tmp 45) = .pointer (some ⟨w.heap.size, 3, none⟩) from (VAL.out 0 (by omega) (DEP.out _ rfl ⟨0, Ground.data⟩ (by simp) rfl)).trans HFV.out.1)
              obtain rfl := hS.low (show 1 < 5 by omega) (by omega) hun
              go_simp
              exact PUT.out 1 (by omega) _ HFV.out.2.1.symm
            · obtain rfl := hS.low (show 2 < 5 by omega) (by omega) hun
              go_simp
              exact PUT.out 2 (by omega) _ HFV.out.2.2.1.symm
            · have h46 := eval_getD (show a'.eval (.tmp 46) = .slice (some ⟨g, off, none⟩) A.len xc from (VAL.out 1 (by omega) (DEP.out _ rfl ⟨1, Ground.data⟩ (by simp) rfl)).trans HFV.out.2.1)
              have h47 := eval_getD (show a'.eval (.tmp 47) = .int .i64 (j : Int) from (VAL.out 2 (by omega) (DEP.out _ rfl ⟨2, Ground.data⟩ (by simp) rfl)).trans HFV.out.2.2.1)
              obtain rfl := hS.low (show 3 < 5 by omega) (by omega) hun
              go_simp
              exact PUT.out 3 (by omega) _ HFV.out.2.2.2.1.symm
            · have h48 := eval_getD (show a'.eval (.tmp 48) = .pointer (some ⟨g, off + j * 4, none⟩) from (VAL.out 3 (by omega) (DEP.out _ rfl ⟨3, Ground.data⟩ (by simp) rfl)).trans HFV.out.2.2.2.1)
              obtain rfl := hS.low (show 4 < 5 by omega) (by omega) hun
              go_simp
              exact PUT.out 4 (by omega) _ HFV.out.2.2.2.2.1.symm
            · obtain ⟨y3, z0, z1, z2, z3⟩ := HW.out v (hS.mid (show 5 < 11 by omega) hun)
              go_simp
              exact PUT.out 5 (by omega) _ HFV.out.2.2.2.2.2.1.symm
            · have h50 := eval_getD (show a'.eval (.tmp 50) = .pointer (some ⟨w.heap.size + 1, 3, none⟩) from (VAL.out 5 (by omega) (DEP.out _ rfl ⟨5, Ground.data⟩ (by simp) rfl)).trans HFV.out.2.2.2.2.2.1)
              obtain ⟨y3, z0, z1, z2, z3⟩ := HW.out v (hS.mid (show 6 < 11 by omega) hun)
              go_simp
              exact PUT.out 6 (by omega) _ HFV.out.2.2.2.2.2.2.1.symm
            · obtain ⟨y3, z0, z1, z2, z3⟩ := HW.out v (hS.mid (show 7 < 11 by omega) hun)
              go_simp
              exact PUT.out 7 (by omega) _ HFV.out.2.2.2.2.2.2.2.1.symm
            · have h51 := eval_getD (show a'.eval (.tmp 51) = .slice (some ⟨g', off', none⟩) B.len yc from (VAL.out 6 (by omega) (DEP.out _ rfl ⟨6, Ground.data⟩ (by simp) rfl)).trans HFV.out.2.2.2.2.2.2.1)
              have h52 := eval_getD (show a'.eval (.tmp 52) = .int .i64 (j : Int) from (VAL.out 7 (by omega) (DEP.out _ rfl ⟨7, Ground.data⟩ (by simp) rfl)).trans HFV.out.2.2.2.2.2.2.2.1)
              obtain ⟨y3, z0, z1, z2, z3⟩ := HW.out v (hS.mid (show 8 < 11 by omega) hun)
              go_simp
              exact PUT.out 8 (by omega) _ HFV.out.2.2.2.2.2.2.2.2.1.symm
            · have h53 := eval_getD (show a'.eval (.tmp 53) = .pointer (some ⟨g', off' + j * 4, none⟩) from (VAL.out 8 (by omega) (DEP.out _ rfl ⟨8, Ground.data⟩ (by simp) rfl)).trans HFV.out.2.2.2.2.2.2.2.2.1)
              obtain ⟨y3, z0, z1, z2, z3⟩ := HW.out v (hS.mid (show 9 < 11 by omega) hun)
              go_simp
              exact PUT.out 9 (by omega) _ HFV.out.2.2.2.2.2.2.2.2.2.symm
            · have h49 := eval_getD (show a'.eval (.tmp 49) = .agg #[.int .i64 (A.kids j).kind, .int .i64 (A.kids j).num, .string (A.kids j).name, .slice za (A.kids j).len zc] from (VAL.out 4 (by omega) (DEP.out _ rfl ⟨4, Ground.data⟩ (by simp) rfl)).trans HFV.out.2.2.2.2.1)
              obtain ⟨rfl, hS'⟩ := hS.first (by omega) hun (fun i hi => DEP.out _ rfl ⟨i, Ground.phase⟩ (by rcases (by omega : i = 0 ∨ i = 1 ∨ i = 2 ∨ i = 3 ∨ i = 4) with rfl | rfl | rfl | rfl | rfl <;> simp) rfl)
              go_simp
              rw [show ((((wr.setCell ⟨w.heap.size, 0, none⟩ (.int .i64 (A.kids j).kind)).setCell ⟨w.heap.size, 1, none⟩ (.int .i64 (A.kids j).num)).setCell ⟨w.heap.size, 2, none⟩ (.string (A.kids j).name)).setCell ⟨w.heap.size, 3, none⟩ (.slice za (A.kids j).len zc)).drew = W1 from HW1E.out.symm]
              exact NON.out _ (by omega) hS'
            · have h54 := eval_getD (show a'.eval (.tmp 54) = .agg #[.int .i64 (B.kids j).kind, .int .i64 (B.kids j).num, .string (B.kids j).name, .slice za' (B.kids j).len zc'] from (VAL.out 9 (by omega) (DEP.out _ rfl ⟨9, Ground.data⟩ (by simp) rfl)).trans HFV.out.2.2.2.2.2.2.2.2.2)
              obtain ⟨rfl, hS'⟩ := hS.second (by omega) (by omega) hun (fun i hi => DEP.out _ rfl ⟨i, Ground.phase⟩ (by rcases (by omega : i = 0 ∨ i = 1 ∨ i = 2 ∨ i = 3 ∨ i = 4 ∨ i = 5 ∨ i = 6 ∨ i = 7 ∨ i = 8 ∨ i = 9 ∨ i = 10) with rfl | rfl | rfl | rfl | rfl | rfl | rfl | rfl | rfl | rfl | rfl <;> simp) rfl)
              obtain ⟨y0, y1, y2, y3, yf⟩ := HWB.out
              go_simp
              rw [← HW2E.out]
              exact NON.out _ (by omega) hS'
          · intro a' v hsz hdf hkeep hS0 hvals
            obtain ⟨listed, hls, hS, hall⟩ := hS0
            have hv : v = W2 := hS.done (by
              have := hall 11 (by show 11 < 12; omega)
              rw [Array.getD_eq_getD_getElem?, Array.getElem?_eq_getElem (show 11 < listed.size by rw [hls]; show 11 < 12; omega)] at this ⊢
              exact this)
            subst hv
            rw [act_puts (n := 12) hsz hdf hkeep]
            generalize (fun i => a'.eval (.tmp (if i < 10 then 45 + i else 100 + i))) = ff
            clear hsz hdf hkeep hvals hS hall hls
            simp only [puts, Act.put, Nat.reduceLT, if_true, if_false, Nat.reduceAdd, List.setIfInBounds_toArray, List.set_cons_succ, List.set_cons_zero]
            obtain ⟨r0, r1, r2, r3⟩ := HD5.out.boxA
            obtain ⟨t0, t1, t2, t3⟩ := HD5.out.boxB
            clear e0 e1 e2 e3 e0' e1' e2' e3' p0 p1 p2 p3 q0 q1 q2 q3 hwA hwB HW HWB HWO HWB1 HFV
            go_wp2_with (go_at_call 27; refine (HON.out (A.kids j) (B.kids j) _ _ _ hi HD5.out.fa HD5.out.fb (by have := HD5.out.size; have := HHI.out; omega) HD5.out.rowA HD5.out.rowB).mono ?_; rintro e w6 ⟨rfl, hb6⟩; have HI6 := hid_mk (HD5.out.later HHI.out hb6))
            have hrm := HI6.out.room
            refine ⟨⟨kidAt A n j, A.kids j, B.kids j, _, _, rfl, rfl, HI6.out⟩, ?_⟩
            have : n < kidAt A n j := by unfold kidAt; omega
            simp [intOf]; omega
end Go.Proofs.YtdcpmkhebfcfgaaDoor
namespace Go.Proofs.YtdcpmkhebfcfgaaDoor
open Go.RowKit

set_option maxHeartbeats 4000000 in
theorem impl_differ (a b : Nd) (w : World) (u v : Value) (hi : Nat) (hfa : a.Fine) (hfb : b.Fine) (hhi : hi ≤ w.heap.size) (hru : Row 0 hi w a u) (hrv : Row 0 hi w b v) (hc : a.cost ≤ 1048576) (hcb : b.cost ≤ 1048576) (ht : Tabs w) :
    Calls Tryd.prog 12 #[a.val u, b.val v] w fun e w' => e = .returned (.tuple #[.int .i64 (dNum a b), .int .i64 (dCode a b)]) ∧ Below w.heap.size w w' := by
  by_cases hgo : treeB a = true ∧ treeB b = true ∧ sameB a b = false
  · obtain ⟨h1, h2, h3⟩ := hgo
    have := impl_differ_go a b w u v hi hfa hfb hhi hru hrv hc hcb ht h1 h2 h3
    unfold dNum dCode
    simpa [h1, h2, h3] using this
  obtain ⟨p, cu, rfl, -, -⟩ := row_eq.1 hru
  obtain ⟨q, cv, rfl, -, -⟩ := row_eq.1 hrv
  have HTA := hid_mk (fun W (hb : Below w.heap.size w W) => by
    have := impl_tree a W (.slice p a.len cu) hfa (row_wide (row_below hb hhi hru) (Nat.le_refl _) (Nat.le_trans hhi hb.size)) hc (tabs_below ht hb)
    rw [tree_one] at this; exact this)
  have HTB := hid_mk (fun W (hb' : Below w.heap.size w W) => by
    have := impl_tree b W (.slice q b.len cv) hfb (row_wide (row_below hb' hhi hrv) (Nat.le_refl _) (Nat.le_trans hhi hb'.size)) hcb (tabs_below ht hb')
    rw [tree_one] at this; exact this)
  have HSM := hid_mk (fun W (hb : Below w.heap.size w W) => same_any a b W _ _ hi hfa hfb (Nat.le_trans hhi hb.size) (row_below hb hhi hru) (row_below hb hhi hrv))
  have HB : ∀ x y : Obj, Hid (Below w.heap.size w ((w.alloc x).alloc y)) := fun a b => ((Below.refl _ _).alloc (Nat.le_refl _) _).alloc (by simp) _
  have P1 := hid_mk True.intro
  unfold dNum dCode
  unfold Nd.val at HTA HTB HSM ⊢
  clear hru hrv hfa hfb ht
  generalize a.kind = ak at *
  generalize a.num = an at *
  generalize a.name = as' at *
  generalize b.kind = bk at *
  generalize b.num = bn at *
  generalize b.name = bs at *
  cases ha : treeB a with
  | false =>
    rw [ha] at HTA
    simp only [Bool.false_and]
    clear P1 hgo
    go_enter Tryd.func12, Tryd.ntmps12
    go_wp2_with (go_at_call 9; refine (HTA.out _ (HB _ _).out).mono ?_; rintro e w1 ⟨rfl, hb1⟩)
    go_ret2
    exact ⟨rfl, (HB _ _).out.trans (hb1.mono (by simp; omega))⟩
  | true =>
    rw [ha] at HTA
    cases hb : treeB b with
    | false =>
      rw [hb] at HTB
      simp only [Bool.and_false]
      clear hgo
      go_enter Tryd.func12, Tryd.ntmps12
      go_wp2_with (first
        | (clear P1; go_at_call 9; refine (HTA.out _ (HB _ _).out).mono ?_; rintro e w1 ⟨rfl, hb1⟩; obtain ⟨c1, f1⟩ := bcellO hb1; have HB1 := hid_mk ((HB _ _).out.trans (hb1.mono (by simp; omega))); have hz1 : w.heap.size + 1 + 1 ≤ w1.heap.size := (by have := hb1.size; simpa using this))
        | (go_at_call 9; refine (HTB.out _ HB1.out).mono ?_; rintro e w2 ⟨rfl, hb2⟩))
      go_ret2
      exact ⟨rfl, HB1.out.trans (hb2.mono (by omega))⟩
    | true =>
      rw [hb] at HTB
      have hs : sameB a b = true := by
        cases h : sameB a b with
        | true => rfl
        | false => exact absurd ⟨ha, hb, h⟩ hgo
      rw [hs] at HSM
      simp only [hs, Bool.and_self, if_true]
      clear hgo
      go_enter Tryd.func12, Tryd.ntmps12
      go_wp2_with (first
        | (clear P1; go_at_call 9; refine (HTA.out _ (HB _ _).out).mono ?_; rintro e w1 ⟨rfl, hb1⟩; obtain ⟨c1, f1⟩ := bcellO hb1; have HB1 := hid_mk ((HB _ _).out.trans (hb1.mono (by simp; omega))); have hz1 : w.heap.size + 1 + 1 ≤ w1.heap.size := (by have := hb1.size; simpa using this); have hz1a : w.heap.size < w1.heap.size := (by omega); have hz1b : w.heap.size + 1 < w1.heap.size := (by omega))
        | (go_at_call 9; refine (HTB.out _ HB1.out).mono ?_; rintro e w2 ⟨rfl, hb2⟩; obtain ⟨c2, f2⟩ := bcellO hb2; have HB2 := hid_mk (HB1.out.trans (hb2.mono (by omega))); have hz2 := hb2.size)
        | (go_at_call 26; refine (HSM.out _ HB2.out).mono ?_; rintro e w3 ⟨rfl, hb3⟩))
      go_ret2
      exact ⟨rfl, HB2.out.trans (hb3.mono (by omega))⟩
end Go.Proofs.YtdcpmkhebfcfgaaDoor
