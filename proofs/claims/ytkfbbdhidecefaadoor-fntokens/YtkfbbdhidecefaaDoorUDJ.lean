import Derived.Test.YtkfbbdhidecefaaDoorUDD
import Derived.Test.YtkfbbdhidecefaaDoorUDH
import Derived.Test.YtkfbbdhidecefaaDoorUKdP
import Derived.Test.YtkfbbdhidecefaaDoorUKbA
import Derived.Test.YtkfbbdhidecefaaDoorUDI
import Derived.Test.YtkfbbdhidecefaaDoorUDG2
import Derived.Test.YtkfbbdhidecefaaDoorUDF
set_option linter.unusedVariables false
set_option maxHeartbeats 16000000
set_option maxRecDepth 100000
namespace Go.Proofs.YtkfbbdhidecefaaDoor
open Go.RowKit
variable {G : Prop}
theorem bW0 (h : G := by
 clear hb lH mV
 go_wp2_with fail
 refine (NX.out _ _ (by omega) Ar.out 9 (by omega)).mono ?_
 rintro e' v2 ⟨q, hq, rfl, hs, hk⟩
 have LD := aa (Ar.out.step hs hk)
 have G2 := aa (G1.out.kp (sb := sb) (by omega) hk)
 have hzk := hk.size
 clear hs hk Ar G1
 go_wp2_with fail
 refine (nQ _ _).mono ?_
 rintro e' v3 ⟨rfl, hb⟩
 have HE3 := aa (LD.out.calm hb)
 have G3 := aa (G2.out.calm hb)
 have N5 : v2.heap.size ≤ v3.heap.size := hb.size
 clear hb LD G2
 go_wp2_with fail
 refine (ay _ _ _ _ _ _).mono ?_
 rintro e' v4 ⟨rfl, hb⟩
 have Kx : Row v2.heap.size _ _ (cm 0 0 ⟨#[]⟩ (al 22 q ⟨#[]⟩)) _ := LV.one (A := al 22 q ⟨#[]⟩) N5 (gD _ _ _ _ _ _)
 have R4 : Hid (Row v2.heap.size v4.heap.size v4 (cm 20 0 ⟨#[]⟩ (al 22 q ⟨#[]⟩)) (.slice (some ⟨v3.heap.size, 0, none⟩) 1 1)) := (ar (T := cm 20 0 ⟨#[]⟩ (al 22 q ⟨#[]⟩))).2 ((ar (T := cm 0 0 ⟨#[]⟩ (al 22 q ⟨#[]⟩))).1 (cD (ae hb lr Kx) lr hb.size))
 have hG := (bO v3 (.cells #[.int .i64 22, .int .i64 (q : Int), .string ⟨#[]⟩, .slice none 0 0] 27)).trans (hb.mono (by simp))
 have HE4 := aa (HE3.out.calm hG)
 have G4 := aa (G3.out.calm hG)
 have hz4 : v2.heap.size ≤ v4.heap.size := Nat.le_trans N5 hG.size
 clear hb hG Kx HE3 G3
 go_wp2_with fail
 refine (ay _ _ _ _ _ _).mono ?_
 rintro e' v5 ⟨rfl, hb⟩
 have Kx : Row v2.heap.size _ _ (cm 0 0 ⟨#[]⟩ (cm 20 0 ⟨#[]⟩ (al 22 q ⟨#[]⟩))) _ := LV.one (A := cm 20 0 ⟨#[]⟩ (al 22 q ⟨#[]⟩)) hz4 R4.out
 have R5 : Hid (Row v2.heap.size v5.heap.size v5 (cm 4 0 ⟨#[]⟩ (cm 20 0 ⟨#[]⟩ (al 22 q ⟨#[]⟩))) (.slice (some ⟨v4.heap.size, 0, none⟩) 1 1)) := (ar (T := cm 4 0 ⟨#[]⟩ (cm 20 0 ⟨#[]⟩ (al 22 q ⟨#[]⟩)))).2 ((ar (T := cm 0 0 ⟨#[]⟩ (cm 20 0 ⟨#[]⟩ (al 22 q ⟨#[]⟩)))).1 (cD (ae hb lr Kx) lr hb.size))
 have hG := (bO v4 (.cells #[.int .i64 20, .int .i64 0, .string ⟨#[]⟩, .slice (some ⟨v3.heap.size, 0, none⟩) 1 1] 27)).trans (hb.mono (by simp))
 have HE5 := aa (HE4.out.calm hG)
 have G5 := aa (G4.out.calm hG)
 have hz5 : v2.heap.size ≤ v5.heap.size := Nat.le_trans hz4 hG.size
 clear hb hG Kx HE4 G4
 go_wp2_with fail
 refine (bM _ _ _ _ _ _ _).mono ?_
 rintro e' v6 ⟨rfl, hb⟩
 have Kx : Row v2.heap.size _ _ (cm 0 0 ⟨#[]⟩ (cm 4 0 ⟨#[]⟩ (cm 20 0 ⟨#[]⟩ (al 22 q ⟨#[]⟩)))) _ := LV.one (A := cm 4 0 ⟨#[]⟩ (cm 20 0 ⟨#[]⟩ (al 22 q ⟨#[]⟩))) hz5 R5.out
 have R6 : Hid (Row v2.heap.size v6.heap.size v6 (cm 2 0 ⟨#[84, 101, 115, 116, 48]⟩ (cm 4 0 ⟨#[]⟩ (cm 20 0 ⟨#[]⟩ (al 22 q ⟨#[]⟩)))) (.slice (some ⟨v5.heap.size, 0, none⟩) 1 1)) := (ar (T := cm 2 0 ⟨#[84, 101, 115, 116, 48]⟩ (cm 4 0 ⟨#[]⟩ (cm 20 0 ⟨#[]⟩ (al 22 q ⟨#[]⟩))))).2 ((ar (T := cm 0 0 ⟨#[]⟩ (cm 4 0 ⟨#[]⟩ (cm 20 0 ⟨#[]⟩ (al 22 q ⟨#[]⟩))))).1 (cD (ae hb lr Kx) lr hb.size))
 have hG := (bO v5 (.cells #[.int .i64 4, .int .i64 0, .string ⟨#[]⟩, .slice (some ⟨v4.heap.size, 0, none⟩) 1 1] 27)).trans (hb.mono (by simp))
 have HE6 := aa (HE5.out.calm hG)
 have G6 := aa (G5.out.calm hG)
 have Rp : v2.heap.size ≤ v6.heap.size := Nat.le_trans hz5 hG.size
 clear hb hG Kx HE5 G5
 have hlF : Row v2.heap.size _ _ (cm 0 0 ⟨#[]⟩ (cm 2 0 ⟨#[84, 101, 115, 116, 48]⟩ (cm 4 0 ⟨#[]⟩ (cm 20 0 ⟨#[]⟩ (al 22 q ⟨#[]⟩))))) _ := LV.one (A := cm 2 0 ⟨#[84, 101, 115, 116, 48]⟩ (cm 4 0 ⟨#[]⟩ (cm 20 0 ⟨#[]⟩ (al 22 q ⟨#[]⟩)))) Rp R6.out
 have KE := bO v6 (.cells #[.int .i64 2, .int .i64 0, .string ⟨#[84, 101, 115, 116, 48]⟩, .slice (some ⟨v5.heap.size, 0, none⟩) 1 1] 27)
 have hsz6 := HE6.out.size
 obtain ⟨aj, cj, v7, vs, iS, SB, aD, iU⟩ := nE (T := cm 0 0 ⟨#[]⟩ (cm 2 0 ⟨#[84, 101, 115, 116, 48]⟩ (cm 4 0 ⟨#[]⟩ (cm 20 0 ⟨#[]⟩ (al 22 q ⟨#[]⟩))))) (G6.out.calm KE) hlF (by simp; omega) (by omega) (by simp; omega) lr (fun g hg => .inl (by simp [Value.ownBlock] at hg; omega)) (by show 4 + 1 ≤ _; omega)
 have HE7 := aa ((HE6.out.calm KE).grown aD (fun k hk => by simp [Value.ownBlock] at hk; omega))
 have vG := aa iS
 have G7 := aa SB
 clear hlF KE SB aD iU iS G6 HE6
 go_wp2_with (at_builtin; refine iL _ rfl _ _ 25 rfl _ _ _ _ rfl rfl vG.out ?_; clear vG)
 refine (bM _ _ _ _ _ _ _).mono ?_
 rintro e' v8 ⟨rfl, hb⟩
 have HE8 := aa (HE7.out.calm hb)
 have R8 := aa ((G7.out.calm hb).row (lo := w.heap.size + 1) lr 1 0 ⟨#[]⟩)
 obtain ⟨f0, f1, f2, f3, ff⟩ := HE8.out.cells
 clear hb G7 HE7
 go_wp2
 refine bodyPost_ret (HE8.out.read Tryd.results11 rfl _ _ _ _) rfl ⟨zj q, aj, cj, rfl, ?_⟩
 exact (HE8.out.fin (T := zj q) (P := fun T => qA T = 0) (C := 1000000) R8.out (uI q (by omega)).1 (uI q (by omega)).2.1 (uI q (by omega)).2.2).more (by omega)) : G := h
theorem bW1 (h : G := by
 clear gC gH
 exact bW3) : G := h
theorem Qk (h : G := by
 exact bW3) : G := h
theorem bW3 (h : G := by
 go_simp
 exact fG.out v (fun _ _ _ h => h) (HS.out.same (by omega) cJ (by decide) (by decide) rfl) _ rfl (by decide)) : G := h
theorem bW4 (h : G := by
 have bB := fN (f := 40) (j := 9) mZ.out (by kernel_rfl) cJ
 have aF := fN (f := 40) (j := 11) mZ.out (by kernel_rfl) cJ
 obtain ⟨gC, gH⟩ := HS.out.pre bB
 have mO : wX.heap.size ≤ v.heap.size := by have := gH.size; omega
 first
 |clear k_W4_0
  have EF := aa (cD (l8 RLP.out (by omega) lr gH) lr gH.size)
  go_simp
  exact fG.out _ (vE (Wn.of_calm (bA)) bB aF) (HS.out.calm (by omega) cJ (by decide) (by decide) rfl bB aF (bA)) _ ⟨cm 0 0 ⟨#[]⟩ (Nd.mk 4 0 ⟨#[]⟩ jb Tb), _, _, rfl, rfl, LV.one (A := Nd.mk 4 0 ⟨#[]⟩ jb Tb) mO EF.out⟩ (by decide)
 |clear k_W4_1
  clear hx7 hr7
  go_simp
  exact fG.out _ (vE (Wn.of_calm (bA)) bB aF) (HS.out.calm (by omega) cJ (by decide) (by decide) rfl bB aF (bA)) _ ⟨cm 0 0 ⟨#[]⟩ T7, _, _, ⟨T7, hp7, rfl⟩, rfl, LV.one mO HR.out⟩ (by decide)) : G := h
theorem bW5 (h : G := by
 have k_W8_1 := kk
 exact bW8) : G := h
theorem bW6 (h : G := by
 have k_W9_1 := kk
 exact bW9) : G := h
theorem bW7 (h : G := by
 have bB := fN (f := 40) (j := 9) mZ.out (by kernel_rfl) cJ
 have aF := fN (f := 40) (j := 11) mZ.out (by kernel_rfl) cJ
 obtain ⟨gC, gH⟩ := HS.out.pre bB
 first
 |clear k_W7_0
  go_simp
  refine (bM _ _ _ _ _ _ _).mono ?_
  rintro e' v2 ⟨rfl, hb⟩
  exact fG.out v2 (vE (Wn.of_calm hb) bB aF) (HS.out.calm (by omega) cJ (by decide) (by decide) rfl bB aF hb) _ (TV.node (P := fun _ => True) 2 0 (wK k) (KQ bm BLK.out) ((Wn.of_calm hb).row HR.out)) (by decide)
 |clear k_W7_1
  go_simp
  refine (DG.out _).mono ?_
  rintro e' v2 ⟨rfl, hb⟩
  exact fG.out v2 (vE (Wn.of_calm hb) bB aF) (HS.out.calm (by omega) cJ (by decide) (by decide) rfl bB aF hb) _ rfl (by decide)
 |clear k_W7_2
  obtain ⟨z0, z1, z2, z3, zf⟩ := aw (bG I5.out.obx yh gH)
  exact bW1
 |clear k_W7_3
  obtain ⟨z0, z1, z2, z3, zf⟩ := aw (bG HBP.out qU gH)
  exact bW1) : G := h
theorem bW8 (h : G := by
 have k_W9_2 := kk
 exact bW9) : G := h
theorem bW9 (h : G := by
 have bB := fN (f := 40) (j := 12) mZ.out (by kernel_rfl) cJ
 have aF := fN (f := 40) (j := 12) mZ.out (by kernel_rfl) cJ
 obtain ⟨gC, gH⟩ := HS.out.pre bB
 first
 |clear k_W9_0
  obtain ⟨z0, z1, z2, z3, zf⟩ := aw (bG tT.out qU gH)
  exact bW1
 |clear k_W9_1
  go_simp
  first
  |clear k_W6_0
   refine (bM _ _ _ _ _ _ _).mono ?_
   rintro e' v2 ⟨rfl, hb⟩
   exact fG.out v2 (pW (Wn.of_calm hb) gV bB aF) (HS.out.calm (by omega) cJ (by decide) (by decide) rfl bB aF hb) _ (TV.node (P := fun _ => True) 26 0 ⟨#[]⟩ ⟨q2, mU, rfl⟩ ((Wn.of_calm hb).row HR.out)) (by decide)
  |clear k_W6_1
   refine (gv sb _ 2 v (by omega) (by omega) gC.src).mono ?_
   rintro e' v2 ⟨q2, mU, rfl, hs, hk⟩
   exact fG.out v2 (pW (Wn.of_kp hk (by omega)) gV bB aF) (HS.out.ask (by omega) (by omega) cJ (by decide) (by decide) bB aF hs hk) _ ⟨q2, by omega, rfl⟩ (by decide)
  |clear k_W6_2
   refine (nQ _ _).mono ?_
   rintro e' v2 ⟨rfl, hb⟩
   exact fG.out v2 (pW (Wn.of_calm hb) gV bB aF) (HS.out.calm (by omega) cJ (by decide) (by decide) rfl bB aF hb) _ ⟨q2, mU, rfl⟩ (by decide)
  |clear k_W6_3
   refine (ay _ _ _ _ _ _).mono ?_
   rintro e' v2 ⟨rfl, hb⟩
   exact fG.out v2 (pW (Wn.of_calm hb) gV bB aF) (HS.out.calm (by omega) cJ (by decide) (by decide) rfl bB aF hb) _ (TV.node (P := fun _ => True) 5 0 ⟨#[109]⟩ ⟨q2, mU, rfl⟩ ((Wn.of_calm hb).row HR.out)) (by decide)
 |clear k_W9_2
  have mO := gH.size
  first
  |clear k_W8_0
   obtain ⟨aj, cj, v2, vs, iS, mV, aD, iU⟩ := nE (Mz.weak (show wX.heap.size ≤ wE.heap.size by omega)) (l8 RB.out (by omega) (by omega) gH) (by omega) lr Rm (by omega) (fun g hg => .inr (by simp [Value.ownBlock] at hg; omega)) (by omega)
   have uX := vA Mz (l8 RB.out (by omega) (by omega) gH) (by omega) iS
   refine oH rfl hx Az (iS _) ?_
   refine fG.out v2 (pW (Wn.of_calm uX) gV bB aF) (HS.out.calm (by omega) cJ (by decide) (by decide) rfl bB aF uX) _ ⟨_, _, _, _, aj, cj, rfl, mV, ⟨q2, mU, rfl⟩, ?_, fun i hi => ?_⟩ (by decide)
   ·rcases iU with e | ⟨k, e, hk⟩
    ·rw [e]; simp [Value.ownBlock]; omega
    ·rw [e]; intro h; have := Option.some.inj h; omega
   ·by_cases h3 : i < 1
    ·rw [bh _ _ h3, bh _ _ h3]; left; omega
    ·rw [bN _ _ (by omega), bN _ _ (by omega)]; right; omega
  |clear k_W8_1
   go_simp
   first
   |clear k_W5_0
    exact fG.out _ (pW (Wn.of_calm (bA)) gV bB aF) (HS.out.calm (by omega) cJ (by decide) (by decide) rfl bB aF (bA)) _ ⟨cm 0 0 ⟨#[]⟩ (al 22 q2 ⟨#[]⟩), _, _, ⟨q2, mU, rfl⟩, rfl, LV.one (A := al 22 q2 ⟨#[]⟩) mO (gD _ _ _ _ _ _)⟩ (by decide)
   |clear k_W5_1
    exact fG.out _ (pW (Wn.of_calm (bA)) gV bB aF) (HS.out.calm (by omega) cJ (by decide) (by decide) rfl bB aF (bA)) _ ⟨cm 0 0 ⟨#[]⟩ (L7 q2), _, _, ⟨q2, mU, rfl⟩, rfl, LV.one (A := L7 q2) mO HR.out⟩ (by decide)
   |clear k_W5_2
    exact fG.out _ (pW (Wn.of_calm (bA)) gV bB aF) (HS.out.calm (by omega) cJ (by decide) (by decide) rfl bB aF (bA)) _ (GV.new (A := sQ q2) ⟨q2, mU, rfl⟩ mO HR.out) (by decide)) : G := h
section
open Go Go.RowKit
def zj (q : Nat) : Nd := .mk 1 0 ⟨#[]⟩ (4 + 1) (fW (cE qF) 4 (cm 0 0 ⟨#[]⟩ (cm 2 0 ⟨#[84, 101, 115, 116, 48]⟩ (cm 4 0 ⟨#[]⟩ (cm 20 0 ⟨#[]⟩ (al 22 q ⟨#[]⟩))))).kids)
theorem uI (q : Nat) (h : q < 9) : (zj q).Fine ∧ qA (zj q) = 0 ∧ (zj q).cost ≤ 1000000 := by
 refine ⟨⟨by omega, by omega, by decide, by omega, fun i hi => ?_⟩, ?_, ?_⟩
 ·by_cases oA : i < 4
  ·rw [bh _ _ oA]; exact (Ah i oA).1
  ·rw [bN _ _ (by omega)]; exact bF (by omega) (by omega) (by decide) (bF (by omega) (by omega) (by decide) (bF (by omega) (by omega) (by decide) (aC (by omega) (by omega) (by decide))))
 ·rcases (by omega : q = 0 ∨ q = 1 ∨ q = 2 ∨ q = 3 ∨ q = 4 ∨ q = 5 ∨ q = 6 ∨ q = 7 ∨ q = 8) with rfl | rfl | rfl | rfl | rfl | rfl | rfl | rfl | rfl <;> kernel_rfl
 ·show ByteArray.size ⟨#[]⟩ + ((4 + 1) + ag (fun i => (fW (cE qF) 4 _ i).cost) (4 + 1)) ≤ _
  simp only [ag]
  rcases (by omega : q = 0 ∨ q = 1 ∨ q = 2 ∨ q = 3 ∨ q = 4 ∨ q = 5 ∨ q = 6 ∨ q = 7 ∨ q = 8) with rfl | rfl | rfl | rfl | rfl | rfl | rfl | rfl | rfl <;> decide
end
theorem AZ (C K M : Nat) (hC : C ≤ 46184) (hK : K ≤ 100000000) (hM : M ≤ 100) (BD : LW 2 C K M) (sb A : Nat) (w : World) (hA : A + (30 * K + 1000) ≤ 1099511627776) (h : Src sb A w) :
    Calls Tryd.prog 11 #[.pointer (some ⟨sb, 0, none⟩)] w fun e w' => ∃ T a c, e = .returned (T.val (.slice a T.len c)) ∧ Drawn sb (A + (30 * K + 1000)) (fun T => qA T = 0) 1000000 w T (.slice a T.len c) w' := by
  have HD := aa (DW.start h)
  have NX := aa (fun B W (hB : B + 3 ≤ 1099511627776) (hd : DW sb B w W) (k : Nat) (hk : k ≤ 100) => gv sb B k W hB (by omega) hd.src)
  have sJ : sb < w.heap.size := h.lt
  have Fa := aa BD
  have fH := rJ
  unfold gZ at *
  clear h
  go_enter Tryd.func11, Tryd.ntmps11
  go_wp2_with fail
  refine (vz _).mono ?_
  rintro e w1 ⟨vb, rfl, lH, hb⟩
  rw [World.size_alloc] at lH
  have qD := aa (HD.out.calm hb)
  obtain ⟨gb, ub, rfl, hgb1, hgb2, mV⟩ : ∃ g us, vb = .slice (some ⟨g, 0, none⟩) 4 4 ∧ w.heap.size + 1 ≤ g ∧ g < w1.heap.size ∧ Gw (w.heap.size + 1) (cE qF) us (fun _ => w.heap.size + 1) (fun _ => g) 4 (.slice (some ⟨g, 0, none⟩) 4 4) w1 := AW lH (by decide)
  have HGW := aa mV
  clear hb HD lH mV
  go_wp2_with fail
  refine (bM _ _ _ _ _ _ _).mono ?_
  rintro e w2 ⟨rfl, hb⟩
  have hQ := hb.size
  have hZ := qD.out.size
  have PE0 : Hid (PE sb A (7 * C + 250) w w2.heap.size 0 (w2.alloc (lV 1 0 ⟨#[]⟩ (some ⟨gb, 0, none⟩) 4 4))) := by
    have hG := bO w2 (lV 1 0 ⟨#[]⟩ (some ⟨gb, 0, none⟩) 4 4)
    exact ⟨cE qF, ub, _, _, some ⟨gb, 0, none⟩, 4, (qD.out.calm hb).calm hG, by omega, heap_alloc_new w2 _, (HGW.out.calm hb).calm hG, fun e => by simp [Value.ownBlock] at e; omega, fun i hi => .inr (by omega), fun i hi => Ah i (by omega), by show ag (fun i => (cE qF i).cost) 4 ≤ 1000 + 0 * _; have := Ik; omega⟩
  have yh : w2.heap.size ≠ sb := by omega
  clear hb qD HGW
  go_wp2_with fail
  go_loopw [4] (fun i wr => ∃ (k : Nat), i = .int .i64 k ∧ k ≤ 2 ∧ PE sb (A + k * (13 * K + 30)) (7 * C + 250) w w2.heap.size k wr) (fun i _ => 2 - (intOf i).toNat)
  case atStart => exact ⟨0, rfl, by omega, by rw [Nat.zero_mul, Nat.add_zero]; exact PE0.out⟩
  case round =>
    obtain ⟨k, rfl, oT, Ts, us, s, e, ka, kc, hpi⟩ := hrel
    have E4 := aa hpi
    have Cy := hpi.low
    clear hpi PE0
    by_cases bm : k < 2
    · skip
      have hki : (k : Int) < 2 := by omega
      have hkr : k * (13 * K + 30) ≤ 1 * (13 * K + 30) := Nat.mul_le_mul_right _ (by omega)
      have mC : (k + 1) * (13 * K + 30) = k * (13 * K + 30) + (13 * K + 30) := by rw [Nat.add_mul, Nat.one_mul]
      rw [Nat.one_mul] at hkr
      have Qt := aa mC
      clear mC
      generalize k * (13 * K + 30) = Y at hkr E4 Qt
      go_wp2_with fail
      refine (F1 sb _ _ E4.out.dw.src).mono ?_
      rintro e' w3 ⟨r, hr, rfl, hw3⟩
      subst hw3
      go_wp2_with fail
      refine (NX.out _ _ (by omega) E4.out.dw r (by omega)).mono ?_
      rintro e' wX ⟨q, hq, rfl, hs, hk⟩
      have hq4 : q ≤ 4 := by omega
      have EG := aa (E4.out.kp hs hk)
      have hwq : IntKind.i64.wrap (2 + (q : Int)) = ((2 + q : Nat) : Int) := by rw [lu (by omega) (by omega)]; omega
      have hmk : (2 + q) * K ≤ 6 * K := Nat.mul_le_mul_right _ (by omega)
      have hmc : (2 + q) * C ≤ 6 * C := Nat.mul_le_mul_right _ (by omega)
      clear hs hk E4
      go_wp2_with fail
      refine (Fa.out sb (A + Y + 3) 0 (2 + q) (.slice none 0 0) false wX (by omega) (by omega) EG.out.dw.src ⟨none, 0, rfl, by omega, by omega, .inl rfl⟩).mono ?_
      rintro e' wY ⟨TB, uB, rfl, dB⟩
      obtain ⟨aB, cB, rfl⟩ := aQ dB.row
      have Na := aa (EG.out.dw.step dB.src dB.kp)
      have Rm := dB.kp.size
      have hzX := EG.out.dw.size
      have RB := aa (ae (bO wY (lV TB.kind TB.num TB.name aB TB.len cB)) lr dB.row)
      have P5 : TB.len = 2 + q := dB.ok.2.2
      have hlB6 : TB.len ≤ 6 := by omega
      obtain ⟨wE, Cu⟩ : ∃ W, wY.alloc (lV TB.kind TB.num TB.name aB TB.len cB) = W := ⟨_, rfl⟩
      have PD : Hid (Kp sb wX (wY.alloc (lV TB.kind TB.num TB.name aB TB.len cB))) := dB.kp.trans (b7 (bO wY _) _) (fun _ _ h => h)
      clear dB P5
      unfold Nd.val
      have yN := aa (Na.out.alloc (lV TB.kind TB.num TB.name aB TB.len cB))
      have tT := aa (heap_alloc_new wY (lV TB.kind TB.num TB.name aB TB.len cB))
      have hzE : wY.heap.size + 1 ≤ wE.heap.size := by rw [← Cu]; simp
      rw [Cu] at yN tT RB PD
      have M5 := aa Cu
      clear Cu Na
      have qU : wY.heap.size ≠ sb := by omega
      have gV : wX.heap.size ≤ wE.heap.size := by omega
      go_upto_region 6 with fail
      rw [show (wY.alloc (Obj.cells #[.int .i64 TB.kind, .int .i64 TB.num, .string TB.name, .slice aB TB.len cB] 27)) = wE from M5.out]
      clear M5
      have oz : ag (fun i => if i = 1 then 3 else 0) 13 = 3 := by simp [ag]
      have Bl : sb < wE.heap.size := by omega
      refine fO fH (by kernel_rfl) E8 (Iz sb wY.heap.size wE.heap.size wX.heap.size aB TB cB) (GS sb (A + Y + 3 + (2 + q) * K + 10) (fun i => if i = 1 then 3 else 0) 13 12 12 w wE (wY.heap.size) (F6 sb (A + Y + 3 + (2 + q) * K + 10 + 3) wX.heap.size wY.heap.size TB w wE)) (GS.start _ yN.out) ?_ ?_
      · intro l a v i hI hr
        have EU : i < 13 := (bd hr).1
        have cJ := (bd hr).2
        have Hb : l.size = 13 := hI.lsize
        have HS := aa hI.s
        have qS := ng (fun i => if i = 1 then 3 else 0) l 13
        rw [oz] at qS
        have mZ := aa hI.shut
        have fG := aa (fun (v' : World) (hw : ∀ jj x, l.getD jj false = true → Iz sb wY.heap.size wE.heap.size wX.heap.size aB TB cB jj v x → Iz sb wY.heap.size wE.heap.size wX.heap.size aB TB cB jj v' x) (nB : GS sb (A + Y + 3 + (2 + q) * K + 10) (fun i => if i = 1 then 3 else 0) 13 12 12 w wE (wY.heap.size) (F6 sb (A + Y + 3 + (2 + q) * K + 10 + 3) wX.heap.size wY.heap.size TB w wE) (l.setIfInBounds i true) v') (x : Value) (hx : Iz sb wY.heap.size wE.heap.size wX.heap.size aB TB cB i v' x) (bP : E8 i < 70) => hI.put LO hr bP hw nB hx)
        have vQ := aa (fun (v' : World) (hw : ∀ jj x, l.getD jj false = true → Iz sb wY.heap.size wE.heap.size wX.heap.size aB TB cB jj v x → Iz sb wY.heap.size wE.heap.size wX.heap.size aB TB cB jj v' x) (nB : GS sb (A + Y + 3 + (2 + q) * K + 10) (fun i => if i = 1 then 3 else 0) 13 12 12 w wE (wY.heap.size) (F6 sb (A + Y + 3 + (2 + q) * K + 10 + 3) wX.heap.size wY.heap.size TB w wE) (l.setIfInBounds i true) v') (hx : ∀ x, Iz sb wY.heap.size wE.heap.size wX.heap.size aB TB cB i v' x) => hI.none hr hw nB hx)
        have bx := aa (fun (j : Nat) (hj : j < 13) (hl : l.getD j false = true) => hI.vals j hj hl)
        have bg := aa (fun o (ho : _ = some o) => gE hr (o := o) ho)
        have s0 : a.tmps[0]?.getD undef = .pointer (some ⟨sb, 0, none⟩) := ab (hI.keep 0 (by intro i hi; have h2 : i < 13 := hi; show 0 ≠ E8 i; have : ((List.range 13).all fun i => decide (E8 i ≠ 0)) = true := (by decide); have h3 := List.all_eq_true.1 this i (List.mem_range.2 h2); simp at h3; exact fun e => h3 e.symm))
        have s5 : a.tmps[5]?.getD undef = .pointer (some ⟨wY.heap.size, 0, none⟩) := ab (hI.keep 5 (by intro i hi; have h2 : i < 13 := hi; show 5 ≠ E8 i; have : ((List.range 13).all fun i => decide (E8 i ≠ 5)) = true := (by decide); have h3 := List.all_eq_true.1 this i (List.mem_range.2 h2); simp at h3; exact fun e => h3 e.symm))
        clear hI hr
        rcases (by omega : i = 0 ∨ i = 1 ∨ i = 2 ∨ i = 3 ∨ i = 4 ∨ i = 5 ∨ i = 6 ∨ i = 7 ∨ i = 8 ∨ i = 9 ∨ i = 10 ∨ i = 11 ∨ i = 12) with rfl | rfl | rfl | rfl | rfl | rfl | rfl | rfl | rfl | rfl | rfl | rfl | rfl
        all_goals (refine lx rfl rfl ?_)
        · exact Qk
        · have AC := ab (show a.eval (.tmp 19) = .pointer (some ⟨sb, 0, none⟩) from bx.out 0 (by omega) (bg.out _ rfl ⟨0, Ground.data⟩ (by simp) rfl))
          have k_W6_1 := kk
          exact bW6
        · obtain ⟨q2, mU, hx⟩ : ∃ q : Nat, q < 2 ∧ a.eval (.tmp 20) = .int .i64 (q : Int) := bx.out 1 (by omega) (bg.out _ rfl ⟨1, Ground.data⟩ (by simp) rfl)
          have AB := ab hx
          clear hx
          have k_W6_2 := kk
          exact bW6
        · obtain ⟨q2, mU, hx⟩ : ∃ q : Nat, q < 2 ∧ a.eval (.tmp 21) = .agg #[.int .i64 22, .int .i64 (q : Int), .string ⟨#[]⟩, .slice none 0 0] := bx.out 2 (by omega) (bg.out _ rfl ⟨2, Ground.data⟩ (by simp) rfl)
          have yL := ab hx
          clear hx
          have k_W5_0 := kk
          exact bW5
        · obtain ⟨T3, a3, c3, GU, EO, GM⟩ : LV wE.heap.size (fun T => ∃ q : Nat, q < 2 ∧ T = cm 0 0 ⟨#[]⟩ (al 22 q ⟨#[]⟩)) v (a.eval (.tmp 22)) := bx.out 3 (by omega) (bg.out _ rfl ⟨3, Ground.data⟩ (by simp) rfl)
          obtain ⟨q2, mU, rfl⟩ := GU
          have Bx := ab EO
          have HR := aa GM
          clear EO GM
          have k_W6_0 := kk
          exact bW6
        · obtain ⟨T4, a4, c4, hp4, Rt, P3⟩ : TV wE.heap.size (fun T => ∃ q : Nat, q < 2 ∧ T = L7 q) v (a.eval (.tmp 23)) := bx.out 4 (by omega) (bg.out _ rfl ⟨4, Ground.data⟩ (by simp) rfl)
          obtain ⟨q2, mU, rfl⟩ := hp4
          have ym := ab Rt
          unfold Nd.val at ym
          have HR := aa P3
          clear Rt P3
          have k_W5_1 := kk
          exact bW5
        · obtain ⟨T5, a5, c5, Sa, Me, Mo⟩ : LV wE.heap.size (fun T => ∃ q : Nat, q < 2 ∧ T = cm 0 0 ⟨#[]⟩ (L7 q)) v (a.eval (.tmp 24)) := bx.out 5 (by omega) (bg.out _ rfl ⟨5, Ground.data⟩ (by simp) rfl)
          obtain ⟨q2, mU, rfl⟩ := Sa
          have AA := ab Me
          have HR := aa Mo
          clear Me Mo
          have k_W6_3 := kk
          exact bW6
        · obtain ⟨T6, a6, c6, hp6, Rs, RY⟩ : TV wE.heap.size (fun T => ∃ q : Nat, q < 2 ∧ T = sQ q) v (a.eval (.tmp 25)) := bx.out 6 (by omega) (bg.out _ rfl ⟨6, Ground.data⟩ (by simp) rfl)
          obtain ⟨q2, mU, rfl⟩ := hp6
          have yl := ab Rs
          unfold Nd.val at yl
          have HR := aa RY
          clear Rs RY
          have k_W5_2 := kk
          exact bW5
        · exact Qk
        · have yK := ab (show a.eval (.tmp 27) = .pointer (some ⟨wY.heap.size, 3, none⟩) from bx.out 8 (by omega) (bg.out _ rfl ⟨8, Ground.data⟩ (by simp) rfl))
          have k_W9_0 := kk
          exact bW9
        · obtain ⟨A3, u3, g3, ⟨q2, mU, rfl⟩, rK, hx, Mz⟩ : GV wE.heap.size (fun T => ∃ q : Nat, q < 2 ∧ T = sQ q) v (a.eval (.tmp 26)) := bx.out 7 (by omega) (bg.out _ rfl ⟨7, Ground.data⟩ (by simp) rfl)
          have Az : a.eval (.tmp 28) = .slice aB TB.len cB := bx.out 9 (by omega) (bg.out _ rfl ⟨9, Ground.data⟩ (by simp) rfl)
          have k_W8_0 := kk
          exact bW8
        · exact Qk
        · have h30 := ab (show a.eval (.tmp 30) = .pointer (some ⟨wY.heap.size, 3, none⟩) from bx.out 11 (by omega) (bg.out _ rfl ⟨11, Ground.data⟩ (by simp) rfl))
          obtain ⟨Ts2, QC, s2, e2, a2, c2, hx, mV, ⟨q2, mU, rfl⟩, zI, Ax⟩ : AV wX.heap.size wY.heap.size (1 + TB.len) (fun Ts => ∃ q : Nat, q < 2 ∧ Ts = fW (fun _ => sQ q) 1 TB.kids) v (a.eval (.tmp 29)) := bx.out 10 (by omega) (bg.out _ rfl ⟨10, Ground.data⟩ (by simp) rfl)
          have zZ := ab hx
          have bB := fF cJ
          obtain ⟨gC, gH⟩ := HS.out.pre bB
          have qx := bG tT.out qU gH
          obtain ⟨z0, z1, z2, z3, zf⟩ := aw qx
          have Ng := zf 3
          have HF6 : Hid (F6 sb (A + Y + 3 + (2 + q) * K + 10 + 3) wX.heap.size wY.heap.size TB w wE (v.setCell ⟨wY.heap.size, 3, none⟩ (.slice a2 (1 + TB.len) c2))) := ⟨q2, mU, (show DW sb (A + Y + 3 + (2 + q) * K + 10 + 3) w v from ⟨gC.src.mono (by omega), gC.kp, gC.low⟩).put _ _ _ (by omega), fun k h1 h2 h3 => (Below.heap_setCell _ _ _ _ (by show k ≠ wY.heap.size; exact h3)).trans (gH.block k h1 h2), (by have := gH.size; simpa [World.setCell] using this), QC, s2, e2, a2, c2, (heap_setCell_same v wY.heap.size 3 _ 27 (.slice a2 (1 + TB.len) c2) qx).trans rfl, mV.put zI Ax, Ax 0 (by omega)⟩
          clear hx gC gH qx mV zf
          go_simp
          exact vQ.out _ (fun j x _ hx => Pk (by omega) j x hx) (GS.store (by omega) (.inl rfl) HF6.out) (fun _ => trivial)
      · intro a v bP o8 cL wa iM
        obtain ⟨l, hS, aN⟩ := wa
        have HF := aa (hS.fin (aN 12 (by decide)))
        rw [iV (n := 13) bP o8 cL]
        generalize (fun i => a.eval (.tmp (E8 i))) = ff
        clear bP o8 cL iM hS aN
        simp only [mM, Act.put, E8, List.getD_cons_zero, List.getD_cons_succ, List.setIfInBounds_toArray, List.set_cons_succ, List.set_cons_zero, List.set_nil]
        obtain ⟨q2, mU, gC, nY, Ko, QC, s2, e2, la, lc, qi, mV, hs20⟩ := HF.out
        have Lz := aa (EG.out.dw.kp2 gC (by omega) (fun k h1 h2 => (nY k (by omega) h2 (by omega)).trans (PD.out.block k h1 h2)))
        have HPG := aa (EG.out.kp gC.src Lz.out)
        have E7 := aa qi
        have Rn := (Array.getElem?_eq_some_iff.1 qi).1
        obtain ⟨kd0, kd1, kd2, kd3⟩ := Gw.kd (sb := sb) mV (by omega) (by omega)
        have KD0 : Hid (KD sb (s2 0) (e2 0) (sQ q2) la v) := kd0
        have hobX := (Array.getElem?_eq_some_iff.1 EG.out.obx).1
        obtain ⟨wG, Mg⟩ : ∃ W, W = v := ⟨_, rfl⟩
        rw [← Mg] at HPG E7 Rn KD0 kd3 Lz ⊢
        clear gC mV HF qi tT yN RB Mg nY PD Ko kd0
        obtain ⟨x0, x1, x2, x3, xf⟩ := aw E7.out
        go_wp2_with fail
        refine (Iv C K M (by omega) hK hM Fa.out sb (A + Y + 3 + (2 + q) * K + 10 + 3) (s2 0) (e2 0) (ct (sQ q2) TB) la lc wG (by omega) (by show 1 ≤ 1 + TB.len; omega) (by show 1 + TB.len ≤ 7; omega) HPG.out.dw.src (by omega) kd2 kd3 KD0.out (Ld q2 mU)).mono ?_
        rintro e' wH ⟨jb, Tb, ubb, sbb, ebb, Cr, zu, rfl, Sy, Mp, Mv, MG, RP, gH⟩
        have HPH := aa (HPG.out.kp RP gH)
        have HBH := aa (bG E7.out qU gH)
        have hzH := gH.size
        have BLK := aa MG
        have Sz := Sy.keep (w' := iN wH wY.heap.size 4 0 ⟨#[]⟩ (.slice Cr jb zu)) (by rw [lF]; exact Nat.le_refl _) (fun k _ _ hh => iA wH _ _ _ _ _ k (by
          rcases hh with hh | ⟨i, hi, h1, h2⟩
          · have := Mp k hh; omega
          · have := Mv i hi; omega))
        have RLP := aa ((Sz.weak kd1).row lr 4 0 ⟨#[]⟩)
        have HBP := aa (J9 4 0 ⟨#[]⟩ Cr jb zu HBH.out)
        have hzP := lF wH wY.heap.size 4 0 ⟨#[]⟩ (.slice Cr jb zu)
        have DWP := aa (HPH.out.dw.any (W' := iN wH wY.heap.size 4 0 ⟨#[]⟩ (.slice Cr jb zu)) rfl rfl rfl (by rw [hzP]; exact Nat.le_refl _) (fun k hk => iA wH _ _ _ _ _ k (by omega)))
        have I5 := aa (EG.out.kp DWP.out.src (EG.out.dw.kp2 DWP.out (by omega) (fun k h1 h2 => (iA wH _ _ _ _ _ k (by omega)).trans ((gH.block k (by have := Lz.out.size; omega) h2).trans (Lz.out.block k h1 h2)))))
        obtain ⟨y0, y1, y2, y3, yf⟩ := aw HBH.out
        have yf0 := yf 0
        have yf1 := yf 1
        have yf2 := yf 2
        have yf3 := yf 3
        obtain ⟨wP, hwP⟩ : ∃ W, iN wH wY.heap.size 4 0 ⟨#[]⟩ (.slice Cr jb zu) = W := ⟨_, rfl⟩
        rw [hwP] at RLP HBP DWP I5 hzP
        have HWP := aa hwP
        have hzP2 : wH.heap.size ≤ wP.heap.size := by omega
        clear hwP Sz Sy Mp Mv MG RP gH HPH HPG E7 KD0 Lz x0 x1 x2 x3 xf yf hzP
        go_upto_region 8 with fail
        rw [show ((((wH.setCell ⟨wY.heap.size, 0, none⟩ (.int .i64 4)).setCell ⟨wY.heap.size, 1, none⟩ (.int .i64 0)).setCell ⟨wY.heap.size, 2, none⟩ (.string ⟨#[]⟩)).setCell ⟨wY.heap.size, 3, none⟩ (.slice Cr jb zu)) = wP from HWP.out]
        clear HWP y0 y1 y2 y3 yf0 yf1 yf2 yf3 HBH
        have Au : (cr (gQ 20 k)).size ≤ 1000 := by have := oW 20 k; rw [qa]; omega
        have DG := aa (fun W => yr k W (by omega))
        have Mh : ag (fun _ => 0) 12 = 0 := by simp [ag]
        refine fO fH (by kernel_rfl) C9 (Iy w2.heap.size wX.heap.size (w.heap.size + 1) (7 * C + 250) (4 + k) k Ts ka Cr kc zu (Nd.mk 4 0 ⟨#[]⟩ jb Tb)) (GS sb (A + Y + 3 + (2 + q) * K + 10 + 3 + (7 * K + 10)) (fun _ => 0) 12 9 11 w wP (w2.heap.size) (PE sb (A + Y + 3 + (2 + q) * K + 10 + 3 + (7 * K + 10)) (7 * C + 250) w w2.heap.size (k + 1))) (GS.start _ I5.out.dw) ?_ ?_
        · intro l a v i hI hr
          have EU : i < 12 := (bd hr).1
          have cJ := (bd hr).2
          have Hb : l.size = 12 := hI.lsize
          have HS := aa hI.s
          have qS := ng (fun _ => 0) l 12
          rw [Mh] at qS
          have mZ := aa hI.shut
          have fG := aa (fun (v' : World) (hw : ∀ jj x, l.getD jj false = true → Iy w2.heap.size wX.heap.size (w.heap.size + 1) (7 * C + 250) (4 + k) k Ts ka Cr kc zu (Nd.mk 4 0 ⟨#[]⟩ jb Tb) jj v x → Iy w2.heap.size wX.heap.size (w.heap.size + 1) (7 * C + 250) (4 + k) k Ts ka Cr kc zu (Nd.mk 4 0 ⟨#[]⟩ jb Tb) jj v' x) (nB : GS sb (A + Y + 3 + (2 + q) * K + 10 + 3 + (7 * K + 10)) (fun _ => 0) 12 9 11 w wP (w2.heap.size) (PE sb (A + Y + 3 + (2 + q) * K + 10 + 3 + (7 * K + 10)) (7 * C + 250) w w2.heap.size (k + 1)) (l.setIfInBounds i true) v') (x : Value) (hx : Iy w2.heap.size wX.heap.size (w.heap.size + 1) (7 * C + 250) (4 + k) k Ts ka Cr kc zu (Nd.mk 4 0 ⟨#[]⟩ jb Tb) i v' x) (bP : C9 i < 70) => hI.put LN hr bP hw nB hx)
          have vQ := aa (fun (v' : World) (hw : ∀ jj x, l.getD jj false = true → Iy w2.heap.size wX.heap.size (w.heap.size + 1) (7 * C + 250) (4 + k) k Ts ka Cr kc zu (Nd.mk 4 0 ⟨#[]⟩ jb Tb) jj v x → Iy w2.heap.size wX.heap.size (w.heap.size + 1) (7 * C + 250) (4 + k) k Ts ka Cr kc zu (Nd.mk 4 0 ⟨#[]⟩ jb Tb) jj v' x) (nB : GS sb (A + Y + 3 + (2 + q) * K + 10 + 3 + (7 * K + 10)) (fun _ => 0) 12 9 11 w wP (w2.heap.size) (PE sb (A + Y + 3 + (2 + q) * K + 10 + 3 + (7 * K + 10)) (7 * C + 250) w w2.heap.size (k + 1)) (l.setIfInBounds i true) v') (hx : ∀ x, Iy w2.heap.size wX.heap.size (w.heap.size + 1) (7 * C + 250) (4 + k) k Ts ka Cr kc zu (Nd.mk 4 0 ⟨#[]⟩ jb Tb) i v' x) => hI.none hr hw nB hx)
          have bx := aa (fun (j : Nat) (hj : j < 12) (hl : l.getD j false = true) => hI.vals j hj hl)
          have bg := aa (fun o (ho : _ = some o) => gE hr (o := o) ho)
          have s3 : a.tmps[3]?.getD undef = .pointer (some ⟨w2.heap.size, 0, none⟩) := ab (hI.keep 3 (by intro i hi; have h2 : i < 12 := hi; show 3 ≠ C9 i; have : ((List.range 12).all fun i => decide (C9 i ≠ 3)) = true := (by decide); have h3 := List.all_eq_true.1 this i (List.mem_range.2 h2); simp at h3; exact fun e => h3 e.symm))
          have s4 : a.tmps[4]?.getD undef = .int .i64 (k : Int) := ab (hI.keep 4 (by intro i hi; have h2 : i < 12 := hi; show 4 ≠ C9 i; have : ((List.range 12).all fun i => decide (C9 i ≠ 4)) = true := (by decide); have h3 := List.all_eq_true.1 this i (List.mem_range.2 h2); simp at h3; exact fun e => h3 e.symm))
          have s5 : a.tmps[5]?.getD undef = .pointer (some ⟨wY.heap.size, 0, none⟩) := ab (hI.keep 5 (by intro i hi; have h2 : i < 12 := hi; show 5 ≠ C9 i; have : ((List.range 12).all fun i => decide (C9 i ≠ 5)) = true := (by decide); have h3 := List.all_eq_true.1 this i (List.mem_range.2 h2); simp at h3; exact fun e => h3 e.symm))
          clear hI hr
          rcases (by omega : i = 0 ∨ i = 1 ∨ i = 2 ∨ i = 3 ∨ i = 4 ∨ i = 5 ∨ i = 6 ∨ i = 7 ∨ i = 8 ∨ i = 9 ∨ i = 10 ∨ i = 11) with rfl | rfl | rfl | rfl | rfl | rfl | rfl | rfl | rfl | rfl | rfl | rfl
          all_goals (refine lx rfl rfl ?_)
          · exact Qk
          · have h34 := ab (show a.eval (.tmp 34) = .pointer (some ⟨w2.heap.size, 3, none⟩) from bx.out 0 (by omega) (bg.out _ rfl ⟨0, Ground.data⟩ (by simp) rfl))
            have k_W7_2 := kk
            exact bW7
          · exact Qk
          · have h36 := ab (show a.eval (.tmp 36) = .int .i64 (k : Int) from bx.out 2 (by omega) (bg.out _ rfl ⟨2, Ground.data⟩ (by simp) rfl))
            have k_W7_1 := kk
            exact bW7
          · have h37 := ab (show a.eval (.tmp 37) = .string (cr (gQ 20 k)) from bx.out 3 (by omega) (bg.out _ rfl ⟨3, Ground.data⟩ (by simp) rfl))
            have h4 : ByteArray.size ⟨#[84, 101, 115, 116]⟩ = 4 := by decide
            have hadd : ¬ (ByteArray.size ⟨#[84, 101, 115, 116]⟩ + (cr (gQ 20 k)).size > 9223372036854775807) := by omega
            have hadd2 : ¬ (9223372036854775807 < ByteArray.size ⟨#[84, 101, 115, 116]⟩ + (cr (gQ 20 k)).size) := hadd
            have hadd3 : ¬ (9223372036854775807 < 4 + (cr (gQ 20 k)).size) := by omega
            have hadds := fun W => run_string_add_sum (P := Tryd.prog) (w := W) ⟨#[84, 101, 115, 116]⟩ (cr (gQ 20 k)) (by omega)
            go_simp
            exact fG.out v (fun _ _ _ h => h) (HS.out.same (by omega) cJ (by decide) (by decide) rfl) (.string ((⟨#[84, 101, 115, 116]⟩ : ByteArray) ++ cr (gQ 20 k))) rfl (by decide)
          · have k_W7_3 := kk
            exact bW7
          · have h39 := ab (show a.eval (.tmp 39) = .agg #[.int .i64 (Nd.mk 4 0 ⟨#[]⟩ jb Tb).kind, .int .i64 (Nd.mk 4 0 ⟨#[]⟩ jb Tb).num, .string (Nd.mk 4 0 ⟨#[]⟩ jb Tb).name, .slice Cr (Nd.mk 4 0 ⟨#[]⟩ jb Tb).len zu] from bx.out 5 (by omega) (bg.out _ rfl ⟨5, Ground.data⟩ (by simp) rfl))
            have k_W4_0 := kk
            exact bW4
          · have h38 := ab (show a.eval (.tmp 38) = .string (wK k) from bx.out 4 (by omega) (bg.out _ rfl ⟨4, Ground.data⟩ (by simp) rfl))
            obtain ⟨T6, a6, c6, hp6, Rs, RY⟩ : LV wX.heap.size (fun T => T = cm 0 0 ⟨#[]⟩ (Nd.mk 4 0 ⟨#[]⟩ jb Tb)) v (a.eval (.tmp 40)) := bx.out 6 (by omega) (bg.out _ rfl ⟨6, Ground.data⟩ (by simp) rfl)
            subst hp6
            have KL := ab Rs
            have HR := aa RY
            clear Rs RY
            have k_W7_0 := kk
            exact bW7
          · obtain ⟨T7, a7, c7, hp7, hx7, hr7⟩ : TV wX.heap.size (I9 (7 * C + 250)) v (a.eval (.tmp 41)) := bx.out 7 (by omega) (bg.out _ rfl ⟨7, Ground.data⟩ (by simp) rfl)
            have Th := ab hx7
            unfold Nd.val at Th
            have HR := aa hr7
            have k_W4_1 := kk
            exact bW4
          · have h35 : a.eval (.tmp 35) = .slice ka (4 + k) kc := bx.out 1 (by omega) (bg.out _ rfl ⟨1, Ground.data⟩ (by simp) rfl)
            obtain ⟨T3, a3, c3, ⟨A3, GU, rfl⟩, hx, GM⟩ : LV wX.heap.size (fun T => ∃ A, I9 (7 * C + 250) A ∧ T = cm 0 0 ⟨#[]⟩ A) v (a.eval (.tmp 42)) := bx.out 8 (by omega) (bg.out _ rfl ⟨8, Ground.data⟩ (by simp) rfl)
            have bB := fF cJ
            have aF := fN (f := 40) (j := 11) mZ.out (by kernel_rfl) cJ
            obtain ⟨gC, gH⟩ := HS.out.pre bB
            have mO : wX.heap.size ≤ v.heap.size := by have := gH.size; omega
            obtain ⟨xj, v2, iS, aD, iH⟩ := PI.join (I5.out.gw.kp (sb := sb) (by omega) gH) I5.out.ne I5.out.ap GM GU (by omega) (by omega) mO lr (fun g hg => (EG.out.gw.own.lt g hg).2) (by omega)
            refine oH rfl h35 hx (iS _) ?_
            exact fG.out v2 (vE (Wn.of_grown aD (fun k hk => (EG.out.gw.own.lt k hk).2)) bB aF) (HS.out.join (by omega) cJ (by decide) aF (by omega) yh aD (fun k hk => ⟨by have := (EG.out.gw.own.lt k hk).1; omega, fun e => EG.out.ne (e ▸ hk)⟩)) _ iH (by decide)
          · exact Qk
          · have h44 := ab (show a.eval (.tmp 44) = .pointer (some ⟨w2.heap.size, 3, none⟩) from bx.out 10 (by omega) (bg.out _ rfl ⟨10, Ground.data⟩ (by simp) rfl))
            have iH : AV (w.heap.size + 1) w2.heap.size (4 + k + 1) (fun Us => ∃ A, I9 (7 * C + 250) A ∧ Us = fW Ts (4 + k) (cm 0 0 ⟨#[]⟩ A).kids) v (a.eval (.tmp 43)) := bx.out 9 (by omega) (bg.out _ rfl ⟨9, Ground.data⟩ (by simp) rfl)
            have vX : l.getD 9 false = true := bg.out _ rfl ⟨9, Ground.data⟩ (by simp) rfl
            obtain ⟨gC, o9⟩ := HS.out.mid vX (fF cJ)
            rw [Mh] at gC
            have qx := o9.trans I5.out.obx
            obtain ⟨z0, z1, z2, z3, zf⟩ := aw qx
            have Ng := zf 3
            obtain ⟨a2, c2, hx, ER⟩ := PI.done gC Cy qx iH I5.out.ok I5.out.sum
            have h43 := ab hx
            have PG := aa ER
            clear hx gC o9 qx iH ER zf
            go_simp
            exact vQ.out _ (fun j x _ hx => Pj (by omega) j x hx) (GS.store (by omega) (.inr vX) PG.out) (fun _ => trivial)
        · intro a v bP o8 cL wa iM
          obtain ⟨l, hS, aN⟩ := wa
          have HF := aa (hS.fin (aN 11 (by decide)))
          rw [iV (n := 12) bP o8 cL]
          generalize (fun i => a.eval (.tmp (C9 i))) = ff
          clear bP o8 cL iM hS aN
          simp only [mM, Act.put, C9, List.getD_cons_zero, List.getD_cons_succ, List.setIfInBounds_toArray, List.set_cons_succ, List.set_cons_zero, List.set_nil]
          have HPE := aa (PI.more (A' := A + (k + 1) * (13 * K + 30)) HF.out (by rw [Qt.out]; omega))
          clear HF I5 EG
          go_wp2
          exact ⟨⟨k + 1, by go_num, by omega, HPE.out⟩, by simp [intOf]; omega⟩
    · skip
      obtain rfl : k = 2 := by omega
      have hki : ¬ (((2 : Nat) : Int) < 2) := by omega
      have hsum2 : ag (fun i => (Ts i).cost) 6 ≤ 1000 + 2 * (7 * C + 250) := E4.out.sum
      have Oe : wr.heap[w2.heap.size]? = some (lV 1 0 ⟨#[]⟩ ka 6 kc) := E4.out.obx
      obtain ⟨o0, o1, o2, o3, of⟩ := aw Oe
      have CB : (Nd.mk 1 0 ⟨#[]⟩ 6 Ts).Fine := ⟨by omega, by omega, by decide, by omega, fun i hi => (E4.out.ok i hi).1⟩
      have ny : (Nd.mk 1 0 ⟨#[]⟩ 6 Ts).cost ≤ 1000000 := by
        show ByteArray.size ⟨#[]⟩ + (6 + ag (fun i => (Ts i).cost) 6) ≤ _
        have e0 : ByteArray.size ⟨#[]⟩ = 0 := by decide
        omega
      have SG : ∀ i, i < 6 → fR (Ts i) = true := fun i hi => (E4.out.ok i hi).2
      have HFUN := aa SG
      have iT := E4.out.gw.row (lo := w.heap.size + 1) lr 1 0 ⟨#[]⟩
      have yz : Hid (Row (w.heap.size + 1) wr.heap.size wr (Nd.mk 1 0 ⟨#[]⟩ 6 Ts) (.slice ka 6 kc)) := iT
      have VK := aa (fun W (hb : Below wr.heap.size wr W) => zr (Nd.mk 1 0 ⟨#[]⟩ 6 Ts) W 600 (.slice ka 6 kc) wr.heap.size CB hb.size (ae hb lr (cD yz.out (Nat.zero_le _) lr)) (by omega))
      have ALL := aa (fun (ht : gg (Nd.mk 1 0 ⟨#[]⟩ 6 Ts) = true) W (hb : Below wr.heap.size wr W) => It (Nd.mk 1 0 ⟨#[]⟩ 6 Ts) W (.slice ka 6 kc) wr.heap.size ht CB hb.size (ae hb lr (cD yz.out (Nat.zero_le _) lr)) (by omega))
      have HFC := aa (And.intro CB ny)
      have E5 := aa E4.out.dw
      have HOX := aa Oe
      clear CB ny SG iT Oe E4
      go_wp2_with fail
      refine (VK.out wr (Below.refl _ _)).mono ?_
      rintro e' wL ⟨rfl, hb⟩
      have AH := aa hb
      clear hb VK
      by_cases bP : (Nd.mk 1 0 ⟨#[]⟩ 6 Ts).size ≤ 600
      · have hl : qt (Nd.mk 1 0 ⟨#[]⟩ 6 Ts).size 600 = ((600 - (Nd.mk 1 0 ⟨#[]⟩ 6 Ts).size : Nat) : Int) := if_pos bP
        rw [hl]
        have ht : gg (Nd.mk 1 0 ⟨#[]⟩ 6 Ts) = true := by
          unfold gg
          have h6 : cM (fun i => fR (Ts i)) 6 = true := iD HFUN.out
          have e0 : az ⟨#[]⟩ = true := by kernel_rfl
          simp only [Nd.kind, Nd.num, Nd.name, Nd.len, Nd.kids, h6, e0, bP, decide_true, Bool.and_true]
        have HT := aa ht
        clear ht
        generalize (600 - (Nd.mk 1 0 ⟨#[]⟩ 6 Ts).size) = lf
        have hnn : ¬ ((lf : Int) < 0) := by omega
        have oL := aw (aZ HOX.out AH.out)
        obtain ⟨p0, p1, p2, p3, pf⟩ := oL
        go_wp2_with fail
        refine (ALL.out HT.out wL AH.out).mono ?_
        rintro e' wA ⟨cb, rfl, hd⟩
        have C7 := aa (AH.out.trans (hd.below.mono AH.out.size))
        cases hM : lT (Nd.mk 1 0 ⟨#[]⟩ 6 Ts) with
        | ok X =>
          have hc : wA.cell? ⟨cb, 5, none⟩ = some (.int .i64 0) := by have := hd.code; rw [hM] at this; exact this
          have yA : Hid (qA (Nd.mk 1 0 ⟨#[]⟩ 6 Ts) = 0) := by unfold Hid qA; rw [HT.out, hM]; rfl
          have AF := aa (E5.out.calm C7.out)
          obtain ⟨r0, r1, r2, r3, rf⟩ := aw (aZ HOX.out C7.out)
          obtain ⟨f0, f1, f2, f3, ff⟩ := AF.out.cells
          have HRA := aa (cD (ae C7.out lr yz.out) lr C7.out.size)
          clear hd hM ALL
          go_wp2
          refine bodyPost_ret (AF.out.read Tryd.results11 rfl _ _ _ _) rfl ⟨Nd.mk 1 0 ⟨#[]⟩ 6 Ts, ka, kc, rfl, ?_⟩
          exact (AF.out.fin (P := fun T => qA T = 0) (C := 1000000) HRA.out HFC.out.1 yA.out HFC.out.2).more (by omega)
        | error p =>
          have hc : wA.cell? ⟨cb, 5, none⟩ = some (.int .i64 p.1) := by have := hd.code; rw [hM] at this; exact this
          have hnz : p.1 ≠ 0 := hd.nz p hM
          have hnz2 : (p.1 == 0) = false := bn hnz
          have hnz3 : (p.1 != 0) = true := by simp [bne, hnz2]
          have AF := aa (E5.out.calm C7.out)
          clear hd hM ALL
          have hzW := AF.out.size
          go_wp2_with fail
          refine (vz _).mono ?_
          rintro e' v1 ⟨vb, rfl, lH, hb⟩
          have Ar := aa (AF.out.calm hb)
          obtain ⟨gq, uq, rfl, hgq1, hgq2, mV⟩ : ∃ g us, vb = .slice (some ⟨g, 0, none⟩) 4 4 ∧ wA.heap.size ≤ g ∧ g < v1.heap.size ∧ Gw wA.heap.size (cE qF) us (fun _ => wA.heap.size) (fun _ => g) 4 (.slice (some ⟨g, 0, none⟩) 4 4) v1 := AW lH (by decide)
          have G1 := aa (mV.weak (show w.heap.size + 1 ≤ wA.heap.size by omega))
          exact bW0
      · have hl : qt (Nd.mk 1 0 ⟨#[]⟩ 6 Ts).size 600 = -1 := if_neg bP
        rw [hl]
        have HDL := aa (E5.out.calm AH.out)
        clear ALL
        have hzW := HDL.out.size
        go_wp2_with fail
        refine (vz _).mono ?_
        rintro e' v1 ⟨vb, rfl, lH, hb⟩
        have Ar := aa (HDL.out.calm hb)
        obtain ⟨gq, uq, rfl, hgq1, hgq2, mV⟩ : ∃ g us, vb = .slice (some ⟨g, 0, none⟩) 4 4 ∧ wL.heap.size ≤ g ∧ g < v1.heap.size ∧ Gw wL.heap.size (cE qF) us (fun _ => wL.heap.size) (fun _ => g) 4 (.slice (some ⟨g, 0, none⟩) 4 4) v1 := AW lH (by decide)
        have G1 := aa (mV.weak (show w.heap.size + 1 ≤ wL.heap.size by omega))
        exact bW0
theorem vq : EXC 1 1 300 300 := Hy 1 100 100 (by omega) (by omega) (by omega) (by omega) rP
theorem H2 : EXC 1 2 700 700 := Hy 2 300 300 (by omega) (by omega) (by omega) (by omega) vq
theorem Tv : EXC 2 1 300 300 := CL 1 100 100 (by omega) (by omega) (by omega) (by omega) rP K4
theorem Hz : EXC 2 2 700 700 := CL 2 300 300 (by omega) (by omega) (by omega) (by omega) vq Tv
theorem st_0 : VJ 0 1000 2000 3 := FQ 0 0 0 0 0 0 0 1000 (by omega) (by omega) (by omega) (by omega) (by omega) (by omega) (by omega) (by omega) rP vq H2 Hz (fun h => absurd h (by omega)) (fun h => absurd h (by omega))
theorem Uc : LW 0 1041 2000 3 := yv 0 1000 2000 3 (by omega) (by omega) (by omega) (by omega) st_0
theorem sl_1 : SLC 1 7449 13000 6 := wQ 1 1041 2000 3 (by omega) (by omega) (by omega) (by omega) vq Uc
theorem st_1 : VJ 1 7449 23000 12 := FQ 1 1041 2000 3 7449 13000 6 7449 (by omega) (by omega) (by omega) (by omega) (by omega) (by omega) (by omega) (by omega) rP vq H2 Hz (fun _ => Uc) (fun _ => sl_1)
theorem Ub : LW 1 7490 23000 12 := yv 1 7449 23000 12 (by omega) (by omega) (by omega) (by omega) st_1
theorem sl_2 : SLC 2 46143 139000 15 := wQ 2 7490 23000 12 (by omega) (by omega) (by omega) (by omega) vq Ub
theorem st_2 : VJ 2 46143 233000 30 := FQ 2 7490 23000 12 46143 139000 15 46143 (by omega) (by omega) (by omega) (by omega) (by omega) (by omega) (by omega) (by omega) rP vq H2 Hz (fun _ => Ub) (fun _ => sl_2)
theorem bd_2 : LW 2 46184 233000 30 := yv 2 46143 233000 30 (by omega) (by omega) (by omega) (by omega) st_2
end Go.Proofs.YtkfbbdhidecefaaDoor
