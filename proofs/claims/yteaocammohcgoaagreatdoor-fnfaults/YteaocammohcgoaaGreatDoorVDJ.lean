import Derived.Test.YteaocammohcgoaaGreatDoorVDD
import Derived.Test.YteaocammohcgoaaGreatDoorVDH
import Derived.Test.YteaocammohcgoaaGreatDoorVKdP
import Derived.Test.YteaocammohcgoaaGreatDoorVKbA
import Derived.Test.YteaocammohcgoaaGreatDoorVDI
import Derived.Test.YteaocammohcgoaaGreatDoorVDF
set_option linter.unusedVariables false
set_option maxHeartbeats 16000000
set_option maxRecDepth 100000
namespace Go.Proofs.YteaocammohcgoaaGreatDoor
open Go.RowKit
variable {G : Prop}
theorem bd0 (h : G := by
 clear hb iX fz
 go_wp2_with fail
 refine (NX.out _ _ (by omega) tU.out 9 (by omega)).mono ?_
 rintro e' v2 ⟨q, hq, rfl, hs, hk⟩
 have Kc := aa (tU.out.step hs hk)
 have G2 := aa (G1.out.kp (sb := sb) (by omega) hk)
 have hzk := hk.size
 clear hs hk tU G1
 go_wp2_with fail
 refine (fE _ _).mono ?_
 rintro e' v3 ⟨rfl, hb⟩
 have HE3 := aa (Kc.out.calm hb)
 have G3 := aa (G2.out.calm hb)
 have Cd : v2.heap.size ≤ v3.heap.size := hb.size
 clear hb Kc G2
 go_wp2_with fail
 refine (aQ _ _ _ _ _ _).mono ?_
 rintro e' v4 ⟨rfl, hb⟩
 have ID : Row v2.heap.size _ _ (bX 0 0 ⟨#[]⟩ (aq 22 q ⟨#[]⟩)) _ := LV.one (A := aq 22 q ⟨#[]⟩) Cd (cO _ _ _ _ _ _)
 have R4 : Hid (Row v2.heap.size v4.heap.size v4 (bX 20 0 ⟨#[]⟩ (aq 22 q ⟨#[]⟩)) (.slice (some ⟨v3.heap.size, 0, none⟩) 1 1)) := (aH (T := bX 20 0 ⟨#[]⟩ (aq 22 q ⟨#[]⟩))).2 ((aH (T := bX 0 0 ⟨#[]⟩ (aq 22 q ⟨#[]⟩))).1 (aO (ah hb lr ID) lr hb.size))
 have eV := (bO v3 (.cells #[.int .i64 22, .int .i64 (q : Int), .string ⟨#[]⟩, .slice none 0 0] 25)).trans (hb.mono (by simp))
 have HE4 := aa (HE3.out.calm eV)
 have G4 := aa (G3.out.calm eV)
 have KL : v2.heap.size ≤ v4.heap.size := Nat.le_trans Cd eV.size
 clear hb eV ID HE3 G3
 go_wp2_with fail
 refine (aQ _ _ _ _ _ _).mono ?_
 rintro e' v5 ⟨rfl, hb⟩
 have ID : Row v2.heap.size _ _ (bX 0 0 ⟨#[]⟩ (bX 20 0 ⟨#[]⟩ (aq 22 q ⟨#[]⟩))) _ := LV.one (A := bX 20 0 ⟨#[]⟩ (aq 22 q ⟨#[]⟩)) KL R4.out
 have R5 : Hid (Row v2.heap.size v5.heap.size v5 (bX 4 0 ⟨#[]⟩ (bX 20 0 ⟨#[]⟩ (aq 22 q ⟨#[]⟩))) (.slice (some ⟨v4.heap.size, 0, none⟩) 1 1)) := (aH (T := bX 4 0 ⟨#[]⟩ (bX 20 0 ⟨#[]⟩ (aq 22 q ⟨#[]⟩)))).2 ((aH (T := bX 0 0 ⟨#[]⟩ (bX 20 0 ⟨#[]⟩ (aq 22 q ⟨#[]⟩)))).1 (aO (ah hb lr ID) lr hb.size))
 have eV := (bO v4 (.cells #[.int .i64 20, .int .i64 0, .string ⟨#[]⟩, .slice (some ⟨v3.heap.size, 0, none⟩) 1 1] 25)).trans (hb.mono (by simp))
 have HE5 := aa (HE4.out.calm eV)
 have G5 := aa (G4.out.calm eV)
 have PY : v2.heap.size ≤ v5.heap.size := Nat.le_trans KL eV.size
 clear hb eV ID HE4 G4
 go_wp2_with fail
 refine (bU _ _ _ _ _ _ _).mono ?_
 rintro e' v6 ⟨rfl, hb⟩
 have ID : Row v2.heap.size _ _ (bX 0 0 ⟨#[]⟩ (bX 4 0 ⟨#[]⟩ (bX 20 0 ⟨#[]⟩ (aq 22 q ⟨#[]⟩)))) _ := LV.one (A := bX 4 0 ⟨#[]⟩ (bX 20 0 ⟨#[]⟩ (aq 22 q ⟨#[]⟩))) PY R5.out
 have R6 : Hid (Row v2.heap.size v6.heap.size v6 (bX 2 0 ⟨#[84, 101, 115, 116, 48]⟩ (bX 4 0 ⟨#[]⟩ (bX 20 0 ⟨#[]⟩ (aq 22 q ⟨#[]⟩)))) (.slice (some ⟨v5.heap.size, 0, none⟩) 1 1)) := (aH (T := bX 2 0 ⟨#[84, 101, 115, 116, 48]⟩ (bX 4 0 ⟨#[]⟩ (bX 20 0 ⟨#[]⟩ (aq 22 q ⟨#[]⟩))))).2 ((aH (T := bX 0 0 ⟨#[]⟩ (bX 4 0 ⟨#[]⟩ (bX 20 0 ⟨#[]⟩ (aq 22 q ⟨#[]⟩))))).1 (aO (ah hb lr ID) lr hb.size))
 have eV := (bO v5 (.cells #[.int .i64 4, .int .i64 0, .string ⟨#[]⟩, .slice (some ⟨v4.heap.size, 0, none⟩) 1 1] 25)).trans (hb.mono (by simp))
 have HE6 := aa (HE5.out.calm eV)
 have G6 := aa (G5.out.calm eV)
 have MY : v2.heap.size ≤ v6.heap.size := Nat.le_trans PY eV.size
 clear hb eV ID HE5 G5
 have hlF : Row v2.heap.size _ _ (bX 0 0 ⟨#[]⟩ (bX 2 0 ⟨#[84, 101, 115, 116, 48]⟩ (bX 4 0 ⟨#[]⟩ (bX 20 0 ⟨#[]⟩ (aq 22 q ⟨#[]⟩))))) _ := LV.one (A := bX 2 0 ⟨#[84, 101, 115, 116, 48]⟩ (bX 4 0 ⟨#[]⟩ (bX 20 0 ⟨#[]⟩ (aq 22 q ⟨#[]⟩)))) MY R6.out
 have Ck := bO v6 (.cells #[.int .i64 2, .int .i64 0, .string ⟨#[84, 101, 115, 116, 48]⟩, .slice (some ⟨v5.heap.size, 0, none⟩) 1 1] 25)
 have hsz6 := HE6.out.size
 obtain ⟨aj, cj, v7, vs, ei, Tn, aX, eF⟩ := gH (T := bX 0 0 ⟨#[]⟩ (bX 2 0 ⟨#[84, 101, 115, 116, 48]⟩ (bX 4 0 ⟨#[]⟩ (bX 20 0 ⟨#[]⟩ (aq 22 q ⟨#[]⟩))))) (G6.out.calm Ck) hlF (by simp; omega) (by omega) (by simp; omega) lr (fun g hg => .inl (by simp [Value.ownBlock] at hg; omega)) (by show 4 + 1 ≤ _; omega)
 have HE7 := aa ((HE6.out.calm Ck).grown aX (fun k hk => by simp [Value.ownBlock] at hk; omega))
 have nF := aa ei
 have G7 := aa Tn
 clear hlF Ck Tn aX eF ei G6 HE6
 go_wp2_with (at_builtin; refine dW _ rfl _ _ 23 rfl _ _ _ _ rfl rfl nF.out ?_; clear nF)
 refine (bU _ _ _ _ _ _ _).mono ?_
 rintro e' v8 ⟨rfl, hb⟩
 have HE8 := aa (HE7.out.calm hb)
 have R8 := aa ((G7.out.calm hb).row (lo := w.heap.size + 1) lr 1 0 ⟨#[]⟩)
 obtain ⟨f0, f1, f2, f3, ff⟩ := HE8.out.cells
 clear hb G7 HE7
 go_wp2
 refine bodyPost_ret (HE8.out.read Tryz.results19 rfl _ _ _ _) rfl ⟨uw q, aj, cj, rfl, ?_⟩
 exact (HE8.out.fin (T := uw q) (P := fun T => ep T = 0) (C := 1000000) R8.out (pL q (by omega)).1 (pL q (by omega)).2.1 (pL q (by omega)).2.2).more (by omega)) : G := h
theorem bd1 (h : G := by
 clear dj di
 exact bd3) : G := h
theorem bd2 (h : G := by
 exact bd3) : G := h
theorem bd3 (h : G := by
 go_simp
 exact b6.out v (fun _ _ _ h => h) (HS.out.same (by omega) cG (by decide) (by decide) rfl) _ rfl (by decide)) : G := h
theorem bd4 (h : G := by
 have bD := dm (f := 40) (j := 9) jB.out (by kernel_rfl) cG
 have aM := dm (f := 40) (j := 11) jB.out (by kernel_rfl) cG
 obtain ⟨dj, di⟩ := HS.out.pre bD
 have il : wX.heap.size ≤ v.heap.size := by have := di.size; omega
 first
 |clear k_d4_0
  have Gn := aa (aO (fJ RLP.out (by omega) lr di) lr di.size)
  go_simp
  exact b6.out _ (qB (Wn.of_calm (bA)) bD aM) (HS.out.calm (by omega) cG (by decide) (by decide) rfl bD aM (bA)) _ ⟨bX 0 0 ⟨#[]⟩ (Nd.mk 4 0 ⟨#[]⟩ jb Tb), _, _, rfl, rfl, LV.one (A := Nd.mk 4 0 ⟨#[]⟩ jb Tb) il Gn.out⟩ (by decide)
 |clear k_d4_1
  clear hx7 hr7
  go_simp
  exact b6.out _ (qB (Wn.of_calm (bA)) bD aM) (HS.out.calm (by omega) cG (by decide) (by decide) rfl bD aM (bA)) _ ⟨bX 0 0 ⟨#[]⟩ T7, _, _, ⟨T7, hp7, rfl⟩, rfl, LV.one il HR.out⟩ (by decide)) : G := h
theorem bd5 (h : G := by
 have k_d8_1 := kk
 exact bd8) : G := h
theorem bd6 (h : G := by
 have k_d9_1 := kk
 exact bd9) : G := h
theorem bd7 (h : G := by
 have bD := dm (f := 40) (j := 9) jB.out (by kernel_rfl) cG
 have aM := dm (f := 40) (j := 11) jB.out (by kernel_rfl) cG
 obtain ⟨dj, di⟩ := HS.out.pre bD
 first
 |clear k_d7_0
  go_simp
  refine (bU _ _ _ _ _ _ _).mono ?_
  rintro e' v2 ⟨rfl, hb⟩
  exact b6.out v2 (qB (Wn.of_calm hb) bD aM) (HS.out.calm (by omega) cG (by decide) (by decide) rfl bD aM hb) _ (TV.node (P := fun _ => True) 2 0 (rv k) (I1 bN BLK.out) ((Wn.of_calm hb).row HR.out)) (by decide)
 |clear k_d7_1
  go_simp
  refine (DG.out _).mono ?_
  rintro e' v2 ⟨rfl, hb⟩
  exact b6.out v2 (qB (Wn.of_calm hb) bD aM) (HS.out.calm (by omega) cG (by decide) (by decide) rfl bD aM hb) _ rfl (by decide)
 |clear k_d7_2
  obtain ⟨z0, z1, z2, z3, zf⟩ := ax (cm Cp.out.obx tg di)
  exact bd1
 |clear k_d7_3
  obtain ⟨z0, z1, z2, z3, zf⟩ := ax (cm HBP.out lp di)
  exact bd1) : G := h
theorem bd8 (h : G := by
 have k_d9_2 := kk
 exact bd9) : G := h
theorem bd9 (h : G := by
 have bD := dm (f := 40) (j := 12) jB.out (by kernel_rfl) cG
 have aM := dm (f := 40) (j := 12) jB.out (by kernel_rfl) cG
 obtain ⟨dj, di⟩ := HS.out.pre bD
 first
 |clear k_d9_0
  obtain ⟨z0, z1, z2, z3, zf⟩ := ax (cm cP.out lp di)
  exact bd1
 |clear k_d9_1
  go_simp
  first
  |clear k_d6_0
   refine (bU _ _ _ _ _ _ _).mono ?_
   rintro e' v2 ⟨rfl, hb⟩
   exact b6.out v2 (lE (Wn.of_calm hb) dI bD aM) (HS.out.calm (by omega) cG (by decide) (by decide) rfl bD aM hb) _ (TV.node (P := fun _ => True) 26 0 ⟨#[]⟩ ⟨q2, iL, rfl⟩ ((Wn.of_calm hb).row HR.out)) (by decide)
  |clear k_d6_1
   refine (cK sb _ 2 v (by omega) (by omega) dj.src).mono ?_
   rintro e' v2 ⟨q2, iL, rfl, hs, hk⟩
   exact b6.out v2 (lE (Wn.of_kp hk (by omega)) dI bD aM) (HS.out.ask (by omega) (by omega) cG (by decide) (by decide) bD aM hs hk) _ ⟨q2, by omega, rfl⟩ (by decide)
  |clear k_d6_2
   refine (fE _ _).mono ?_
   rintro e' v2 ⟨rfl, hb⟩
   exact b6.out v2 (lE (Wn.of_calm hb) dI bD aM) (HS.out.calm (by omega) cG (by decide) (by decide) rfl bD aM hb) _ ⟨q2, iL, rfl⟩ (by decide)
  |clear k_d6_3
   refine (aQ _ _ _ _ _ _).mono ?_
   rintro e' v2 ⟨rfl, hb⟩
   exact b6.out v2 (lE (Wn.of_calm hb) dI bD aM) (HS.out.calm (by omega) cG (by decide) (by decide) rfl bD aM hb) _ (TV.node (P := fun _ => True) 5 0 ⟨#[109]⟩ ⟨q2, iL, rfl⟩ ((Wn.of_calm hb).row HR.out)) (by decide)
 |clear k_d9_2
  have il := di.size
  first
  |clear k_d8_0
   obtain ⟨aj, cj, v2, vs, ei, fz, aX, eF⟩ := gH (II.weak (show wX.heap.size ≤ wE.heap.size by omega)) (fJ RB.out (by omega) (by omega) di) (by omega) lr Sa (by omega) (fun g hg => .inr (by simp [Value.ownBlock] at hg; omega)) (by omega)
   have pZ := qw II (fJ RB.out (by omega) (by omega) di) (by omega) ei
   refine jC rfl hx Ll (ei _) ?_
   refine b6.out v2 (lE (Wn.of_calm pZ) dI bD aM) (HS.out.calm (by omega) cG (by decide) (by decide) rfl bD aM pZ) _ ⟨_, _, _, _, aj, cj, rfl, fz, ⟨q2, iL, rfl⟩, ?_, fun i hi => ?_⟩ (by decide)
   ·rcases eF with e | ⟨k, e, hk⟩
    ·rw [e]; simp [Value.ownBlock]; omega
    ·rw [e]; intro h; have := Option.some.inj h; omega
   ·by_cases h3 : i < 1
    ·rw [bw _ _ h3, bw _ _ h3]; left; omega
    ·rw [bW _ _ (by omega), bW _ _ (by omega)]; right; omega
  |clear k_d8_1
   go_simp
   first
   |clear k_d5_0
    exact b6.out _ (lE (Wn.of_calm (bA)) dI bD aM) (HS.out.calm (by omega) cG (by decide) (by decide) rfl bD aM (bA)) _ ⟨bX 0 0 ⟨#[]⟩ (aq 22 q2 ⟨#[]⟩), _, _, ⟨q2, iL, rfl⟩, rfl, LV.one (A := aq 22 q2 ⟨#[]⟩) il (cO _ _ _ _ _ _)⟩ (by decide)
   |clear k_d5_1
    exact b6.out _ (lE (Wn.of_calm (bA)) dI bD aM) (HS.out.calm (by omega) cG (by decide) (by decide) rfl bD aM (bA)) _ ⟨bX 0 0 ⟨#[]⟩ (KH q2), _, _, ⟨q2, iL, rfl⟩, rfl, LV.one (A := KH q2) il HR.out⟩ (by decide)
   |clear k_d5_2
    exact b6.out _ (lE (Wn.of_calm (bA)) dI bD aM) (HS.out.calm (by omega) cG (by decide) (by decide) rfl bD aM (bA)) _ (GV.new (A := oh q2) ⟨q2, iL, rfl⟩ il HR.out) (by decide)) : G := h
section
open Go Go.RowKit
def uw (q : Nat) : Nd := .mk 1 0 ⟨#[]⟩ (4 + 1) (cJ (cE mD) 4 (bX 0 0 ⟨#[]⟩ (bX 2 0 ⟨#[84, 101, 115, 116, 48]⟩ (bX 4 0 ⟨#[]⟩ (bX 20 0 ⟨#[]⟩ (aq 22 q ⟨#[]⟩))))).kids)
theorem pL (q : Nat) (h : q < 9) : (uw q).Fine ∧ ep (uw q) = 0 ∧ (uw q).cost ≤ 1000000 := by
 refine ⟨⟨by omega, by omega, by decide, by omega, fun i hi => ?_⟩, ?_, ?_⟩
 ·by_cases iY : i < 4
  ·rw [bw _ _ iY]; exact (vD i iY).1
  ·rw [bW _ _ (by omega)]; exact bB (by omega) (by omega) (by decide) (bB (by omega) (by omega) (by decide) (bB (by omega) (by omega) (by decide) (aJ (by omega) (by omega) (by decide))))
 ·rcases (by omega : q = 0 ∨ q = 1 ∨ q = 2 ∨ q = 3 ∨ q = 4 ∨ q = 5 ∨ q = 6 ∨ q = 7 ∨ q = 8) with rfl | rfl | rfl | rfl | rfl | rfl | rfl | rfl | rfl <;> kernel_rfl
 ·show ByteArray.size ⟨#[]⟩ + ((4 + 1) + ar (fun i => (cJ (cE mD) 4 _ i).cost) (4 + 1)) ≤ _
  simp only [ar]
  rcases (by omega : q = 0 ∨ q = 1 ∨ q = 2 ∨ q = 3 ∨ q = 4 ∨ q = 5 ∨ q = 6 ∨ q = 7 ∨ q = 8) with rfl | rfl | rfl | rfl | rfl | rfl | rfl | rfl | rfl <;> decide
end
theorem xb (C K M : Nat) (hC : C ≤ 46184) (hK : K ≤ 100000000) (hM : M ≤ 100) (BD : Kv 2 C K M) (sb A : Nat) (w : World) (hA : A + (30 * K + 1000) ≤ 1099511627776) (h : Src sb A w) :
    Calls Tryz.prog 19 #[.pointer (some ⟨sb, 0, none⟩)] w fun e w' => ∃ T a c, e = .returned (T.val (.slice a T.len c)) ∧ Drawn sb (A + (30 * K + 1000)) (fun T => ep T = 0) 1000000 w T (.slice a T.len c) w' := by
  have HD := aa (DW.start h)
  have NX := aa (fun B W (hB : B + 3 ≤ 1099511627776) (hd : DW sb B w W) (k : Nat) (hk : k ≤ 100) => cK sb B k W hB (by omega) hd.src)
  have mM : sb < w.heap.size := h.lt
  have CC := aa BD
  have bH := jK
  unfold dL at *
  clear h
  go_enter Tryz.func19, Tryz.ntmps19
  go_wp2_with fail
  refine (qv _).mono ?_
  rintro e w1 ⟨vb, rfl, iX, hb⟩
  rw [World.size_alloc] at iX
  have mZ := aa (HD.out.calm hb)
  obtain ⟨gb, ub, rfl, hgb1, hgb2, fz⟩ : ∃ g us, vb = .slice (some ⟨g, 0, none⟩) 4 4 ∧ w.heap.size + 1 ≤ g ∧ g < w1.heap.size ∧ Gw (w.heap.size + 1) (cE mD) us (fun _ => w.heap.size + 1) (fun _ => g) 4 (.slice (some ⟨g, 0, none⟩) 4 4) w1 := wT iX (by decide)
  have QD := aa fz
  clear hb HD iX fz
  go_wp2_with fail
  refine (bU _ _ _ _ _ _ _).mono ?_
  rintro e w2 ⟨rfl, hb⟩
  have ed := hb.size
  have eT := mZ.out.size
  have PE0 : Hid (PE sb A (7 * C + 250) w w2.heap.size 0 (w2.alloc (fS 1 0 ⟨#[]⟩ (some ⟨gb, 0, none⟩) 4 4))) := by
    have eV := bO w2 (fS 1 0 ⟨#[]⟩ (some ⟨gb, 0, none⟩) 4 4)
    exact ⟨cE mD, ub, _, _, some ⟨gb, 0, none⟩, 4, (mZ.out.calm hb).calm eV, by omega, heap_alloc_new w2 _, (QD.out.calm hb).calm eV, fun e => by simp [Value.ownBlock] at e; omega, fun i hi => .inr (by omega), fun i hi => vD i (by omega), by show ar (fun i => (cE mD i).cost) 4 ≤ 1000 + 0 * _; have := Fw; omega⟩
  have tg : w2.heap.size ≠ sb := by omega
  clear hb mZ QD
  go_wp2_with fail
  go_loopw [4] (fun i wr => ∃ (k : Nat), i = .int .i64 k ∧ k ≤ 2 ∧ PE sb (A + k * (13 * K + 30)) (7 * C + 250) w w2.heap.size k wr) (fun i _ => 2 - (intOf i).toNat)
  case atStart => exact ⟨0, rfl, by omega, by rw [Nat.zero_mul, Nat.add_zero]; exact PE0.out⟩
  case round =>
    obtain ⟨k, rfl, jL, Ts, us, s, e, ka, kc, hpi⟩ := hrel
    have Cq := aa hpi
    have zh := hpi.low
    clear hpi PE0
    by_cases bN : k < 2
    · skip
      have hki : (k : Int) < 2 := by omega
      have Qd : k * (13 * K + 30) ≤ 1 * (13 * K + 30) := Nat.mul_le_mul_right _ (by omega)
      have ia : (k + 1) * (13 * K + 30) = k * (13 * K + 30) + (13 * K + 30) := by rw [Nat.add_mul, Nat.one_mul]
      rw [Nat.one_mul] at Qd
      have LH := aa ia
      clear ia
      generalize k * (13 * K + 30) = Y at Qd Cq LH
      go_wp2_with fail
      refine (Dq sb _ _ Cq.out.dw.src).mono ?_
      rintro e' w3 ⟨r, hr, rfl, hw3⟩
      subst hw3
      go_wp2_with fail
      refine (NX.out _ _ (by omega) Cq.out.dw r (by omega)).mono ?_
      rintro e' wX ⟨q, hq, rfl, hs, hk⟩
      have hq4 : q ≤ 4 := by omega
      have BX := aa (Cq.out.kp hs hk)
      have hwq : IntKind.i64.wrap (2 + (q : Int)) = ((2 + q : Nat) : Int) := by rw [fq (by omega) (by omega)]; omega
      have hmk : (2 + q) * K ≤ 6 * K := Nat.mul_le_mul_right _ (by omega)
      have hmc : (2 + q) * C ≤ 6 * C := Nat.mul_le_mul_right _ (by omega)
      clear hs hk Cq
      go_wp2_with fail
      refine (CC.out sb (A + Y + 3) 0 (2 + q) (.slice none 0 0) false wX (by omega) (by omega) BX.out.dw.src ⟨none, 0, rfl, by omega, by omega, .inl rfl⟩).mono ?_
      rintro e' wY ⟨TB, uB, rfl, dB⟩
      obtain ⟨aB, cB, rfl⟩ := be dB.row
      have PJ := aa (BX.out.dw.step dB.src dB.kp)
      have Sa := dB.kp.size
      have hzX := BX.out.dw.size
      have RB := aa (ah (bO wY (fS TB.kind TB.num TB.name aB TB.len cB)) lr dB.row)
      have Qc : TB.len = 2 + q := dB.ok.2.2
      have hlB6 : TB.len ≤ 6 := by omega
      obtain ⟨wE, Be⟩ : ∃ W, wY.alloc (fS TB.kind TB.num TB.name aB TB.len cB) = W := ⟨_, rfl⟩
      have PF : Hid (Kp sb wX (wY.alloc (fS TB.kind TB.num TB.name aB TB.len cB))) := dB.kp.trans (bG (bO wY _) _) (fun _ _ h => h)
      clear dB Qc
      unfold Nd.val
      have vU := aa (PJ.out.alloc (fS TB.kind TB.num TB.name aB TB.len cB))
      have cP := aa (heap_alloc_new wY (fS TB.kind TB.num TB.name aB TB.len cB))
      have hzE : wY.heap.size + 1 ≤ wE.heap.size := by rw [← Be]; simp
      rw [Be] at vU cP RB PF
      have LC := aa Be
      clear Be PJ
      have lp : wY.heap.size ≠ sb := by omega
      have dI : wX.heap.size ≤ wE.heap.size := by omega
      go_upto_region 6 with fail
      rw [show (wY.alloc (Obj.cells #[.int .i64 TB.kind, .int .i64 TB.num, .string TB.name, .slice aB TB.len cB] 25)) = wE from LC.out]
      clear LC
      have ji : ar (fun i => if i = 1 then 3 else 0) 13 = 3 := by simp [ar]
      have xB : sb < wE.heap.size := by omega
      refine cQ bH (by kernel_rfl) Cy (FG sb wY.heap.size wE.heap.size wX.heap.size aB TB cB) (GS sb (A + Y + 3 + (2 + q) * K + 10) (fun i => if i = 1 then 3 else 0) 13 12 12 w wE (wY.heap.size) (F6 sb (A + Y + 3 + (2 + q) * K + 10 + 3) wX.heap.size wY.heap.size TB w wE)) (GS.start _ vU.out) ?_ ?_
      · intro l a v i hI hr
        have zl : i < 13 := (bj hr).1
        have cG := (bj hr).2
        have th : l.size = 13 := hI.lsize
        have HS := aa hI.s
        have mL := iS (fun i => if i = 1 then 3 else 0) l 13
        rw [ji] at mL
        have jB := aa hI.shut
        have b6 := aa (fun (v' : World) (hw : ∀ jj x, l.getD jj false = true → FG sb wY.heap.size wE.heap.size wX.heap.size aB TB cB jj v x → FG sb wY.heap.size wE.heap.size wX.heap.size aB TB cB jj v' x) (iC : GS sb (A + Y + 3 + (2 + q) * K + 10) (fun i => if i = 1 then 3 else 0) 13 12 12 w wE (wY.heap.size) (F6 sb (A + Y + 3 + (2 + q) * K + 10 + 3) wX.heap.size wY.heap.size TB w wE) (l.setIfInBounds i true) v') (x : Value) (hx : FG sb wY.heap.size wE.heap.size wX.heap.size aB TB cB i v' x) (b8 : Cy i < 70) => hI.put Ko hr b8 hw iC hx)
        have po := aa (fun (v' : World) (hw : ∀ jj x, l.getD jj false = true → FG sb wY.heap.size wE.heap.size wX.heap.size aB TB cB jj v x → FG sb wY.heap.size wE.heap.size wX.heap.size aB TB cB jj v' x) (iC : GS sb (A + Y + 3 + (2 + q) * K + 10) (fun i => if i = 1 then 3 else 0) 13 12 12 w wE (wY.heap.size) (F6 sb (A + Y + 3 + (2 + q) * K + 10 + 3) wX.heap.size wY.heap.size TB w wE) (l.setIfInBounds i true) v') (hx : ∀ x, FG sb wY.heap.size wE.heap.size wX.heap.size aB TB cB i v' x) => hI.none hr hw iC hx)
        have bC := aa (fun (j : Nat) (hj : j < 13) (hl : l.getD j false = true) => hI.vals j hj hl)
        have bc := fG hr
        have s0 : a.tmps[0]?.getD undef = .pointer (some ⟨sb, 0, none⟩) := ab (hI.keep 0 (by intro i hi; have h2 : i < 13 := hi; show 0 ≠ Cy i; have : ((List.range 13).all fun i => decide (Cy i ≠ 0)) = true := (by decide); have h3 := List.all_eq_true.1 this i (List.mem_range.2 h2); simp at h3; exact fun e => h3 e.symm))
        have s5 : a.tmps[5]?.getD undef = .pointer (some ⟨wY.heap.size, 0, none⟩) := ab (hI.keep 5 (by intro i hi; have h2 : i < 13 := hi; show 5 ≠ Cy i; have : ((List.range 13).all fun i => decide (Cy i ≠ 5)) = true := (by decide); have h3 := List.all_eq_true.1 this i (List.mem_range.2 h2); simp at h3; exact fun e => h3 e.symm))
        clear hI hr
        rcases (by omega : i = 0 ∨ i = 1 ∨ i = 2 ∨ i = 3 ∨ i = 4 ∨ i = 5 ∨ i = 6 ∨ i = 7 ∨ i = 8 ∨ i = 9 ∨ i = 10 ∨ i = 11 ∨ i = 12) with rfl | rfl | rfl | rfl | rfl | rfl | rfl | rfl | rfl | rfl | rfl | rfl | rfl
        all_goals (refine cS rfl rfl ?_)
        · exact bd2
        · have Lo := ab (show a.eval (.tmp 19) = .pointer (some ⟨sb, 0, none⟩) from ag bC bc 0 rfl)
          have k_d6_1 := kk
          exact bd6
        · obtain ⟨q2, iL, hx⟩ : ∃ q : Nat, q < 2 ∧ a.eval (.tmp 20) = .int .i64 (q : Int) := ag bC bc 1 rfl
          have Lm := ab hx
          clear hx
          have k_d6_2 := kk
          exact bd6
        · obtain ⟨q2, iL, hx⟩ : ∃ q : Nat, q < 2 ∧ a.eval (.tmp 21) = .agg #[.int .i64 22, .int .i64 (q : Int), .string ⟨#[]⟩, .slice none 0 0] := ag bC bc 2 rfl
          have xS := ab hx
          clear hx
          have k_d5_0 := kk
          exact bd5
        · obtain ⟨T3, a3, c3, za, mJ, wa⟩ : LV wE.heap.size (fun T => ∃ q : Nat, q < 2 ∧ T = bX 0 0 ⟨#[]⟩ (aq 22 q ⟨#[]⟩)) v (a.eval (.tmp 22)) := ag bC bc 3 rfl
          obtain ⟨q2, iL, rfl⟩ := za
          have I0 := ab mJ
          have HR := aa wa
          clear mJ wa
          have k_d6_0 := kk
          exact bd6
        · obtain ⟨T4, a4, c4, hp4, oD, P9⟩ : TV wE.heap.size (fun T => ∃ q : Nat, q < 2 ∧ T = KH q) v (a.eval (.tmp 23)) := ag bC bc 4 rfl
          obtain ⟨q2, iL, rfl⟩ := hp4
          have By := ab oD
          unfold Nd.val at By
          have HR := aa P9
          clear oD P9
          have k_d5_1 := kk
          exact bd5
        · obtain ⟨T5, a5, c5, SV, KM, KV⟩ : LV wE.heap.size (fun T => ∃ q : Nat, q < 2 ∧ T = bX 0 0 ⟨#[]⟩ (KH q)) v (a.eval (.tmp 24)) := ag bC bc 5 rfl
          obtain ⟨q2, iL, rfl⟩ := SV
          have IZ := ab KM
          have HR := aa KV
          clear KM KV
          have k_d6_3 := kk
          exact bd6
        · obtain ⟨T6, a6, c6, hp6, Sh, SJ⟩ : TV wE.heap.size (fun T => ∃ q : Nat, q < 2 ∧ T = oh q) v (a.eval (.tmp 25)) := ag bC bc 6 rfl
          obtain ⟨q2, iL, rfl⟩ := hp6
          have Gi := ab Sh
          unfold Nd.val at Gi
          have HR := aa SJ
          clear Sh SJ
          have k_d5_2 := kk
          exact bd5
        · exact bd2
        · have IY := ab (show a.eval (.tmp 27) = .pointer (some ⟨wY.heap.size, 3, none⟩) from ag bC bc 8 rfl)
          have k_d9_0 := kk
          exact bd9
        · obtain ⟨A3, u3, g3, ⟨q2, iL, rfl⟩, mq, hx, II⟩ : GV wE.heap.size (fun T => ∃ q : Nat, q < 2 ∧ T = oh q) v (a.eval (.tmp 26)) := ag bC bc 7 rfl
          have Ll : a.eval (.tmp 28) = .slice aB TB.len cB := ag bC bc 9 rfl
          have k_d8_0 := kk
          exact bd8
        · exact bd2
        · have h30 := ab (show a.eval (.tmp 30) = .pointer (some ⟨wY.heap.size, 3, none⟩) from ag bC bc 11 rfl)
          obtain ⟨Ts2, LN, s2, e2, a2, c2, hx, fz, ⟨q2, iL, rfl⟩, rU, rT⟩ : AV wX.heap.size wY.heap.size (1 + TB.len) (fun Ts => ∃ q : Nat, q < 2 ∧ Ts = cJ (fun _ => oh q) 1 TB.kids) v (a.eval (.tmp 29)) := ag bC bc 10 rfl
          have Cm := ab hx
          have bD := cC cG
          obtain ⟨dj, di⟩ := HS.out.pre bD
          have kC := cm cP.out lp di
          obtain ⟨z0, z1, z2, z3, zf⟩ := ax kC
          have Kx := zf 3
          have HF6 : Hid (F6 sb (A + Y + 3 + (2 + q) * K + 10 + 3) wX.heap.size wY.heap.size TB w wE (v.setCell ⟨wY.heap.size, 3, none⟩ (.slice a2 (1 + TB.len) c2))) := ⟨q2, iL, (show DW sb (A + Y + 3 + (2 + q) * K + 10 + 3) w v from ⟨dj.src.mono (by omega), dj.kp, dj.low⟩).put _ _ _ (by omega), fun k h1 h2 h3 => (Below.heap_setCell _ _ _ _ (by show k ≠ wY.heap.size; exact h3)).trans (di.block k h1 h2), (by have := di.size; simpa [World.setCell] using this), LN, s2, e2, a2, c2, (heap_setCell_same v wY.heap.size 3 _ 25 (.slice a2 (1 + TB.len) c2) kC).trans rfl, fz.put rU rT, rT 0 (by omega)⟩
          clear hx dj di kC fz zf
          go_simp
          exact po.out _ (fun j x _ hx => Pe (by omega) j x hx) (GS.store (by omega) (.inl rfl) HF6.out) (fun _ => trivial)
      · intro a v b8 jv cz qc ee
        obtain ⟨l, hS, bl⟩ := qc
        have HF := aa (hS.fin (bl 12 (by decide)))
        rw [eJ (n := 13) b8 jv cz]
        generalize (fun i => a.eval (.tmp (Cy i))) = ff
        clear b8 jv cz ee hS bl
        simp only [ig, Act.put, Cy, List.getD_cons_zero, List.getD_cons_succ, List.setIfInBounds_toArray, List.set_cons_succ, List.set_cons_zero, List.set_nil]
        obtain ⟨q2, iL, dj, fU, Ir, LN, s2, e2, la, lc, fP, fz, hs20⟩ := HF.out
        have J8 := aa (BX.out.dw.kp2 dj (by omega) (fun k h1 h2 => (fU k (by omega) h2 (by omega)).trans (PF.out.block k h1 h2)))
        have HPG := aa (BX.out.kp dj.src J8.out)
        have Cw := aa fP
        have Sb := (Array.getElem?_eq_some_iff.1 fP).1
        obtain ⟨kd0, kd1, kd2, kd3⟩ := Gw.kd (sb := sb) fz (by omega) (by omega)
        have KD0 : Hid (KD sb (s2 0) (e2 0) (oh q2) la v) := kd0
        have hobX := (Array.getElem?_eq_some_iff.1 BX.out.obx).1
        obtain ⟨wG, KP⟩ : ∃ W, W = v := ⟨_, rfl⟩
        rw [← KP] at HPG Cw Sb KD0 kd3 J8 ⊢
        clear dj fz HF fP cP vU RB KP fU PF Ir kd0
        obtain ⟨x0, x1, x2, x3, xf⟩ := ax Cw.out
        go_wp2_with fail
        refine (FD C K M (by omega) hK hM CC.out sb (A + Y + 3 + (2 + q) * K + 10 + 3) (s2 0) (e2 0) (ct (oh q2) TB) la lc wG (by omega) (by show 1 ≤ 1 + TB.len; omega) (by show 1 + TB.len ≤ 7; omega) HPG.out.dw.src (by omega) kd2 kd3 KD0.out (Jk q2 iL)).mono ?_
        rintro e' wH ⟨jb, Tb, ubb, sbb, ebb, yY, uL, rfl, Tl, KX, K8, Lf, Sz, di⟩
        have HPH := aa (HPG.out.kp Sz di)
        have HBH := aa (cm Cw.out lp di)
        have hzH := di.size
        have BLK := aa Lf
        have Tm := Tl.keep (w' := fe wH wY.heap.size 4 0 ⟨#[]⟩ (.slice yY jb uL)) (by rw [fb]; exact Nat.le_refl _) (fun k _ _ hh => eh wH _ _ _ _ _ k (by
          rcases hh with hh | ⟨i, hi, h1, h2⟩
          · have := KX k hh; omega
          · have := K8 i hi; omega))
        have RLP := aa ((Tm.weak kd1).row lr 4 0 ⟨#[]⟩)
        have HBP := aa (H4 4 0 ⟨#[]⟩ yY jb uL HBH.out)
        have hzP := fb wH wY.heap.size 4 0 ⟨#[]⟩ (.slice yY jb uL)
        have DWP := aa (HPH.out.dw.any (W' := fe wH wY.heap.size 4 0 ⟨#[]⟩ (.slice yY jb uL)) rfl rfl rfl (by rw [hzP]; exact Nat.le_refl _) (fun k hk => eh wH _ _ _ _ _ k (by omega)))
        have Cp := aa (BX.out.kp DWP.out.src (BX.out.dw.kp2 DWP.out (by omega) (fun k h1 h2 => (eh wH _ _ _ _ _ k (by omega)).trans ((di.block k (by have := J8.out.size; omega) h2).trans (J8.out.block k h1 h2)))))
        obtain ⟨y0, y1, y2, y3, yf⟩ := ax HBH.out
        have yf0 := yf 0
        have yf1 := yf 1
        have yf2 := yf 2
        have yf3 := yf 3
        obtain ⟨wP, hwP⟩ : ∃ W, fe wH wY.heap.size 4 0 ⟨#[]⟩ (.slice yY jb uL) = W := ⟨_, rfl⟩
        rw [hwP] at RLP HBP DWP Cp hzP
        have HWP := aa hwP
        have hzP2 : wH.heap.size ≤ wP.heap.size := by omega
        clear hwP Tm Tl KX K8 Lf Sz di HPH HPG Cw KD0 J8 x0 x1 x2 x3 xf yf hzP
        go_upto_region 8 with fail
        rw [show ((((wH.setCell ⟨wY.heap.size, 0, none⟩ (.int .i64 4)).setCell ⟨wY.heap.size, 1, none⟩ (.int .i64 0)).setCell ⟨wY.heap.size, 2, none⟩ (.string ⟨#[]⟩)).setCell ⟨wY.heap.size, 3, none⟩ (.slice yY jb uL)) = wP from HWP.out]
        clear HWP y0 y1 y2 y3 yf0 yf1 yf2 yf3 HBH
        have pU : (eO (eI 20 k)).size ≤ 1000 := by have := kq 20 k; rw [lL]; omega
        have DG := aa (fun W => zF k W (by omega))
        have KQ : ar (fun _ => 0) 12 = 0 := by simp [ar]
        refine cQ bH (by kernel_rfl) zP (FF w2.heap.size wX.heap.size (w.heap.size + 1) (7 * C + 250) (4 + k) k Ts ka yY kc uL (Nd.mk 4 0 ⟨#[]⟩ jb Tb)) (GS sb (A + Y + 3 + (2 + q) * K + 10 + 3 + (7 * K + 10)) (fun _ => 0) 12 9 11 w wP (w2.heap.size) (PE sb (A + Y + 3 + (2 + q) * K + 10 + 3 + (7 * K + 10)) (7 * C + 250) w w2.heap.size (k + 1))) (GS.start _ Cp.out.dw) ?_ ?_
        · intro l a v i hI hr
          have zl : i < 12 := (bj hr).1
          have cG := (bj hr).2
          have th : l.size = 12 := hI.lsize
          have HS := aa hI.s
          have mL := iS (fun _ => 0) l 12
          rw [KQ] at mL
          have jB := aa hI.shut
          have b6 := aa (fun (v' : World) (hw : ∀ jj x, l.getD jj false = true → FF w2.heap.size wX.heap.size (w.heap.size + 1) (7 * C + 250) (4 + k) k Ts ka yY kc uL (Nd.mk 4 0 ⟨#[]⟩ jb Tb) jj v x → FF w2.heap.size wX.heap.size (w.heap.size + 1) (7 * C + 250) (4 + k) k Ts ka yY kc uL (Nd.mk 4 0 ⟨#[]⟩ jb Tb) jj v' x) (iC : GS sb (A + Y + 3 + (2 + q) * K + 10 + 3 + (7 * K + 10)) (fun _ => 0) 12 9 11 w wP (w2.heap.size) (PE sb (A + Y + 3 + (2 + q) * K + 10 + 3 + (7 * K + 10)) (7 * C + 250) w w2.heap.size (k + 1)) (l.setIfInBounds i true) v') (x : Value) (hx : FF w2.heap.size wX.heap.size (w.heap.size + 1) (7 * C + 250) (4 + k) k Ts ka yY kc uL (Nd.mk 4 0 ⟨#[]⟩ jb Tb) i v' x) (b8 : zP i < 70) => hI.put Kn hr b8 hw iC hx)
          have po := aa (fun (v' : World) (hw : ∀ jj x, l.getD jj false = true → FF w2.heap.size wX.heap.size (w.heap.size + 1) (7 * C + 250) (4 + k) k Ts ka yY kc uL (Nd.mk 4 0 ⟨#[]⟩ jb Tb) jj v x → FF w2.heap.size wX.heap.size (w.heap.size + 1) (7 * C + 250) (4 + k) k Ts ka yY kc uL (Nd.mk 4 0 ⟨#[]⟩ jb Tb) jj v' x) (iC : GS sb (A + Y + 3 + (2 + q) * K + 10 + 3 + (7 * K + 10)) (fun _ => 0) 12 9 11 w wP (w2.heap.size) (PE sb (A + Y + 3 + (2 + q) * K + 10 + 3 + (7 * K + 10)) (7 * C + 250) w w2.heap.size (k + 1)) (l.setIfInBounds i true) v') (hx : ∀ x, FF w2.heap.size wX.heap.size (w.heap.size + 1) (7 * C + 250) (4 + k) k Ts ka yY kc uL (Nd.mk 4 0 ⟨#[]⟩ jb Tb) i v' x) => hI.none hr hw iC hx)
          have bC := aa (fun (j : Nat) (hj : j < 12) (hl : l.getD j false = true) => hI.vals j hj hl)
          have bc := fG hr
          have s3 : a.tmps[3]?.getD undef = .pointer (some ⟨w2.heap.size, 0, none⟩) := ab (hI.keep 3 (by intro i hi; have h2 : i < 12 := hi; show 3 ≠ zP i; have : ((List.range 12).all fun i => decide (zP i ≠ 3)) = true := (by decide); have h3 := List.all_eq_true.1 this i (List.mem_range.2 h2); simp at h3; exact fun e => h3 e.symm))
          have s4 : a.tmps[4]?.getD undef = .int .i64 (k : Int) := ab (hI.keep 4 (by intro i hi; have h2 : i < 12 := hi; show 4 ≠ zP i; have : ((List.range 12).all fun i => decide (zP i ≠ 4)) = true := (by decide); have h3 := List.all_eq_true.1 this i (List.mem_range.2 h2); simp at h3; exact fun e => h3 e.symm))
          have s5 : a.tmps[5]?.getD undef = .pointer (some ⟨wY.heap.size, 0, none⟩) := ab (hI.keep 5 (by intro i hi; have h2 : i < 12 := hi; show 5 ≠ zP i; have : ((List.range 12).all fun i => decide (zP i ≠ 5)) = true := (by decide); have h3 := List.all_eq_true.1 this i (List.mem_range.2 h2); simp at h3; exact fun e => h3 e.symm))
          clear hI hr
          rcases (by omega : i = 0 ∨ i = 1 ∨ i = 2 ∨ i = 3 ∨ i = 4 ∨ i = 5 ∨ i = 6 ∨ i = 7 ∨ i = 8 ∨ i = 9 ∨ i = 10 ∨ i = 11) with rfl | rfl | rfl | rfl | rfl | rfl | rfl | rfl | rfl | rfl | rfl | rfl
          all_goals (refine cS rfl rfl ?_)
          · exact bd2
          · have h34 := ab (show a.eval (.tmp 34) = .pointer (some ⟨w2.heap.size, 3, none⟩) from ag bC bc 0 rfl)
            have k_d7_2 := kk
            exact bd7
          · exact bd2
          · have h36 := ab (show a.eval (.tmp 36) = .int .i64 (k : Int) from ag bC bc 2 rfl)
            have k_d7_1 := kk
            exact bd7
          · have h37 := ab (show a.eval (.tmp 37) = .string (eO (eI 20 k)) from ag bC bc 3 rfl)
            have h4 : ByteArray.size ⟨#[84, 101, 115, 116]⟩ = 4 := by decide
            have hadd : ¬ (ByteArray.size ⟨#[84, 101, 115, 116]⟩ + (eO (eI 20 k)).size > 9223372036854775807) := by omega
            have hadd2 : ¬ (9223372036854775807 < ByteArray.size ⟨#[84, 101, 115, 116]⟩ + (eO (eI 20 k)).size) := hadd
            have hadd3 : ¬ (9223372036854775807 < 4 + (eO (eI 20 k)).size) := by omega
            have hadds := fun W => run_string_add_sum (P := Tryz.prog) (w := W) ⟨#[84, 101, 115, 116]⟩ (eO (eI 20 k)) (by omega)
            go_simp
            exact b6.out v (fun _ _ _ h => h) (HS.out.same (by omega) cG (by decide) (by decide) rfl) (.string ((⟨#[84, 101, 115, 116]⟩ : ByteArray) ++ eO (eI 20 k))) rfl (by decide)
          · have k_d7_3 := kk
            exact bd7
          · have h39 := ab (show a.eval (.tmp 39) = .agg #[.int .i64 (Nd.mk 4 0 ⟨#[]⟩ jb Tb).kind, .int .i64 (Nd.mk 4 0 ⟨#[]⟩ jb Tb).num, .string (Nd.mk 4 0 ⟨#[]⟩ jb Tb).name, .slice yY (Nd.mk 4 0 ⟨#[]⟩ jb Tb).len uL] from ag bC bc 5 rfl)
            have k_d4_0 := kk
            exact bd4
          · have h38 := ab (show a.eval (.tmp 38) = .string (rv k) from ag bC bc 4 rfl)
            obtain ⟨T6, a6, c6, hp6, Sh, SJ⟩ : LV wX.heap.size (fun T => T = bX 0 0 ⟨#[]⟩ (Nd.mk 4 0 ⟨#[]⟩ jb Tb)) v (a.eval (.tmp 40)) := ag bC bc 6 rfl
            subst hp6
            have h40 := ab Sh
            have HR := aa SJ
            clear Sh SJ
            have k_d7_0 := kk
            exact bd7
          · obtain ⟨T7, a7, c7, hp7, hx7, hr7⟩ : TV wX.heap.size (Gv (7 * C + 250)) v (a.eval (.tmp 41)) := ag bC bc 7 rfl
            have h41 := ab hx7
            unfold Nd.val at h41
            have HR := aa hr7
            have k_d4_1 := kk
            exact bd4
          · have h35 : a.eval (.tmp 35) = .slice ka (4 + k) kc := ag bC bc 1 rfl
            obtain ⟨T3, a3, c3, ⟨A3, za, rfl⟩, hx, wa⟩ : LV wX.heap.size (fun T => ∃ A, Gv (7 * C + 250) A ∧ T = bX 0 0 ⟨#[]⟩ A) v (a.eval (.tmp 42)) := ag bC bc 8 rfl
            have bD := cC cG
            have aM := dm (f := 40) (j := 11) jB.out (by kernel_rfl) cG
            obtain ⟨dj, di⟩ := HS.out.pre bD
            have il : wX.heap.size ≤ v.heap.size := by have := di.size; omega
            obtain ⟨xj, v2, ei, aX, fc⟩ := PI.join (Cp.out.gw.kp (sb := sb) (by omega) di) Cp.out.ne Cp.out.ap wa za (by omega) (by omega) il lr (fun g hg => (BX.out.gw.own.lt g hg).2) (by omega)
            refine jC rfl h35 hx (ei _) ?_
            exact b6.out v2 (qB (Wn.of_grown aX (fun k hk => (BX.out.gw.own.lt k hk).2)) bD aM) (HS.out.join (by omega) cG (by decide) aM (by omega) tg aX (fun k hk => ⟨by have := (BX.out.gw.own.lt k hk).1; omega, fun e => BX.out.ne (e ▸ hk)⟩)) _ fc (by decide)
          · exact bd2
          · have h44 := ab (show a.eval (.tmp 44) = .pointer (some ⟨w2.heap.size, 3, none⟩) from ag bC bc 10 rfl)
            have fc : AV (w.heap.size + 1) w2.heap.size (4 + k + 1) (fun Us => ∃ A, Gv (7 * C + 250) A ∧ Us = cJ Ts (4 + k) (bX 0 0 ⟨#[]⟩ A).kids) v (a.eval (.tmp 43)) := ag bC bc 9 rfl
            have qX : l.getD 9 false = true := bc.out _ rfl ⟨9, Ground.data⟩ (by simp) rfl
            obtain ⟨dj, gE⟩ := HS.out.mid qX (cC cG)
            rw [KQ] at dj
            have kC := gE.trans Cp.out.obx
            obtain ⟨z0, z1, z2, z3, zf⟩ := ax kC
            have Kx := zf 3
            obtain ⟨a2, c2, hx, Ce⟩ := PI.done dj zh kC fc Cp.out.ok Cp.out.sum
            have h43 := ab hx
            have Gs := aa Ce
            clear hx dj gE kC fc Ce zf
            go_simp
            exact po.out _ (fun j x _ hx => Pd (by omega) j x hx) (GS.store (by omega) (.inr qX) Gs.out) (fun _ => trivial)
        · intro a v b8 jv cz qc ee
          obtain ⟨l, hS, bl⟩ := qc
          have HF := aa (hS.fin (bl 11 (by decide)))
          rw [eJ (n := 12) b8 jv cz]
          generalize (fun i => a.eval (.tmp (zP i))) = ff
          clear b8 jv cz ee hS bl
          simp only [ig, Act.put, zP, List.getD_cons_zero, List.getD_cons_succ, List.setIfInBounds_toArray, List.set_cons_succ, List.set_cons_zero, List.set_nil]
          have HPE := aa (PI.more (A' := A + (k + 1) * (13 * K + 30)) HF.out (by rw [LH.out]; omega))
          clear HF Cp BX
          go_wp2
          exact ⟨⟨k + 1, by go_num, by omega, HPE.out⟩, by simp [intOf]; omega⟩
    · skip
      obtain rfl : k = 2 := by omega
      have hki : ¬ (((2 : Nat) : Int) < 2) := by omega
      have hsum2 : ar (fun i => (Ts i).cost) 6 ≤ 1000 + 2 * (7 * C + 250) := Cq.out.sum
      have Nk : wr.heap[w2.heap.size]? = some (fS 1 0 ⟨#[]⟩ ka 6 kc) := Cq.out.obx
      obtain ⟨o0, o1, o2, o3, of⟩ := ax Nk
      have zn : (Nd.mk 1 0 ⟨#[]⟩ 6 Ts).Fine := ⟨by omega, by omega, by decide, by omega, fun i hi => (Cq.out.ok i hi).1⟩
      have fr : (Nd.mk 1 0 ⟨#[]⟩ 6 Ts).cost ≤ 1000000 := by
        show ByteArray.size ⟨#[]⟩ + (6 + ar (fun i => (Ts i).cost) 6) ≤ _
        have e0 : ByteArray.size ⟨#[]⟩ = 0 := by decide
        omega
      have Tv : ∀ i, i < 6 → dd (Ts i) = true := fun i hi => (Cq.out.ok i hi).2
      have HFUN := aa Tv
      have dJ := Cq.out.gw.row (lo := w.heap.size + 1) lr 1 0 ⟨#[]⟩
      have nG : Hid (Row (w.heap.size + 1) wr.heap.size wr (Nd.mk 1 0 ⟨#[]⟩ 6 Ts) (.slice ka 6 kc)) := dJ
      have X0 := aa (fun W (hb : Below wr.heap.size wr W) => uG (Nd.mk 1 0 ⟨#[]⟩ 6 Ts) W 600 (.slice ka 6 kc) wr.heap.size zn hb.size (ah hb lr (aO nG.out (Nat.zero_le _) lr)) (by omega))
      have ALL := aa (fun (ht : dv (Nd.mk 1 0 ⟨#[]⟩ 6 Ts) = true) W (hb : Below wr.heap.size wr W) => vG (Nd.mk 1 0 ⟨#[]⟩ 6 Ts) W (.slice ka 6 kc) wr.heap.size ht zn hb.size (ah hb lr (aO nG.out (Nat.zero_le _) lr)) (by omega))
      have HFC := aa (And.intro zn fr)
      have Cu := aa Cq.out.dw
      have HOX := aa Nk
      clear zn fr Tv dJ Nk Cq
      go_wp2_with fail
      refine (X0.out wr (Below.refl _ _)).mono ?_
      rintro e' wL ⟨rfl, hb⟩
      have bF := aa hb
      clear hb X0
      by_cases b8 : (Nd.mk 1 0 ⟨#[]⟩ 6 Ts).size ≤ 600
      · have hl : mm (Nd.mk 1 0 ⟨#[]⟩ 6 Ts).size 600 = ((600 - (Nd.mk 1 0 ⟨#[]⟩ 6 Ts).size : Nat) : Int) := if_pos b8
        rw [hl]
        have ht : dv (Nd.mk 1 0 ⟨#[]⟩ 6 Ts) = true := by
          unfold dv
          have h6 : aG (fun i => dd (Ts i)) 6 = true := eo HFUN.out
          have e0 : ao ⟨#[]⟩ = true := by kernel_rfl
          simp only [Nd.kind, Nd.num, Nd.name, Nd.len, Nd.kids, h6, e0, b8, decide_true, Bool.and_true]
        have HT := aa ht
        clear ht
        generalize (600 - (Nd.mk 1 0 ⟨#[]⟩ 6 Ts).size) = lf
        have hnn : ¬ ((lf : Int) < 0) := by omega
        have oL := ax (bE HOX.out bF.out)
        obtain ⟨p0, p1, p2, p3, pf⟩ := oL
        go_wp2_with fail
        refine (ALL.out HT.out wL bF.out).mono ?_
        rintro e' wA ⟨cb, rfl, hd⟩
        have oP := aa (bF.out.trans (hd.below.mono bF.out.size))
        cases hM : dC (Nd.mk 1 0 ⟨#[]⟩ 6 Ts) with
        | ok X =>
          have hc : wA.cell? ⟨cb, 5, none⟩ = some (.int .i64 0) := by have := hd.code; rw [hM] at this; exact this
          have oY : Hid (ep (Nd.mk 1 0 ⟨#[]⟩ 6 Ts) = 0) := by unfold Hid ep; rw [HT.out, hM]; rfl
          have wt := aa (Cu.out.calm oP.out)
          obtain ⟨r0, r1, r2, r3, rf⟩ := ax (bE HOX.out oP.out)
          obtain ⟨f0, f1, f2, f3, ff⟩ := wt.out.cells
          have HRA := aa (aO (ah oP.out lr nG.out) lr oP.out.size)
          clear hd hM ALL
          go_wp2
          refine bodyPost_ret (wt.out.read Tryz.results19 rfl _ _ _ _) rfl ⟨Nd.mk 1 0 ⟨#[]⟩ 6 Ts, ka, kc, rfl, ?_⟩
          exact (wt.out.fin (P := fun T => ep T = 0) (C := 1000000) HRA.out HFC.out.1 oY.out HFC.out.2).more (by omega)
        | error p =>
          have hc : wA.cell? ⟨cb, 5, none⟩ = some (.int .i64 p.1) := by have := hd.code; rw [hM] at this; exact this
          have hnz : p.1 ≠ 0 := hd.nz p hM
          have hnz2 : (p.1 == 0) = false := bn hnz
          have hnz3 : (p.1 != 0) = true := by simp [bne, hnz2]
          have wt := aa (Cu.out.calm oP.out)
          clear hd hM ALL
          have hzW := wt.out.size
          go_wp2_with fail
          refine (qv _).mono ?_
          rintro e' v1 ⟨vb, rfl, iX, hb⟩
          have tU := aa (wt.out.calm hb)
          obtain ⟨gq, uq, rfl, hgq1, hgq2, fz⟩ : ∃ g us, vb = .slice (some ⟨g, 0, none⟩) 4 4 ∧ wA.heap.size ≤ g ∧ g < v1.heap.size ∧ Gw wA.heap.size (cE mD) us (fun _ => wA.heap.size) (fun _ => g) 4 (.slice (some ⟨g, 0, none⟩) 4 4) v1 := wT iX (by decide)
          have G1 := aa (fz.weak (show w.heap.size + 1 ≤ wA.heap.size by omega))
          exact bd0
      · have hl : mm (Nd.mk 1 0 ⟨#[]⟩ 6 Ts).size 600 = -1 := if_neg b8
        rw [hl]
        have HDL := aa (Cu.out.calm bF.out)
        clear ALL
        have hzW := HDL.out.size
        go_wp2_with fail
        refine (qv _).mono ?_
        rintro e' v1 ⟨vb, rfl, iX, hb⟩
        have tU := aa (HDL.out.calm hb)
        obtain ⟨gq, uq, rfl, hgq1, hgq2, fz⟩ : ∃ g us, vb = .slice (some ⟨g, 0, none⟩) 4 4 ∧ wL.heap.size ≤ g ∧ g < v1.heap.size ∧ Gw wL.heap.size (cE mD) us (fun _ => wL.heap.size) (fun _ => g) 4 (.slice (some ⟨g, 0, none⟩) 4 4) v1 := wT iX (by decide)
        have G1 := aa (fz.weak (show w.heap.size + 1 ≤ wL.heap.size by omega))
        exact bd0
theorem ql : EXC 1 1 300 300 := Fb 1 100 100 (by omega) (by omega) (by omega) (by omega) nx
theorem Fe : EXC 1 2 700 700 := Fb 2 300 300 (by omega) (by omega) (by omega) (by omega) ql
theorem Ul : EXC 2 1 300 300 := zz 1 100 100 (by omega) (by omega) (by omega) (by omega) nx Jd
theorem Fc : EXC 2 2 700 700 := zz 2 300 300 (by omega) (by omega) (by omega) (by omega) ql Ul
theorem st_0 : XX 0 1000 2000 3 := Dg 0 0 0 0 0 0 0 1000 (by omega) (by omega) (by omega) (by omega) (by omega) (by omega) (by omega) (by omega) nx ql Fe Fc (fun h => absurd h (by omega)) (fun h => absurd h (by omega))
theorem Uz : Kv 0 1041 2000 3 := tF 0 1000 2000 3 (by omega) (by omega) (by omega) (by omega) st_0
theorem sl_1 : SLC 1 7449 13000 6 := rF 1 1041 2000 3 (by omega) (by omega) (by omega) (by omega) ql Uz
theorem st_1 : XX 1 7449 23000 12 := Dg 1 1041 2000 3 7449 13000 6 7449 (by omega) (by omega) (by omega) (by omega) (by omega) (by omega) (by omega) (by omega) nx ql Fe Fc (fun _ => Uz) (fun _ => sl_1)
theorem Uy : Kv 1 7490 23000 12 := tF 1 7449 23000 12 (by omega) (by omega) (by omega) (by omega) st_1
theorem sl_2 : SLC 2 46143 139000 15 := rF 2 7490 23000 12 (by omega) (by omega) (by omega) (by omega) ql Uy
theorem st_2 : XX 2 46143 233000 30 := Dg 2 7490 23000 12 46143 139000 15 46143 (by omega) (by omega) (by omega) (by omega) (by omega) (by omega) (by omega) (by omega) nx ql Fe Fc (fun _ => Uy) (fun _ => sl_2)
theorem bd_2 : Kv 2 46184 233000 30 := tF 2 46143 233000 30 (by omega) (by omega) (by omega) (by omega) st_2
end Go.Proofs.YteaocammohcgoaaGreatDoor
