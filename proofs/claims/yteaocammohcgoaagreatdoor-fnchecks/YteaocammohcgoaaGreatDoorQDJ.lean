import Derived.Test.YteaocammohcgoaaGreatDoorQDD
import Derived.Test.YteaocammohcgoaaGreatDoorQDH
import Derived.Test.YteaocammohcgoaaGreatDoorQKhB
import Derived.Test.YteaocammohcgoaaGreatDoorQDI
import Derived.Test.YteaocammohcgoaaGreatDoorQDG2
import Derived.Test.YteaocammohcgoaaGreatDoorQDF
set_option linter.unusedVariables false
set_option maxHeartbeats 16000000
set_option maxRecDepth 100000
namespace Go.Proofs.YteaocammohcgoaaGreatDoor
open Go.RowKit
variable {G : Prop}
theorem bn0 (h : G := by
 clear hb gg fO
 go_wp2_with fail
 refine (NX.out _ _ (by omega) tC.out 9 (by omega)).mono ?_
 rintro e' v2 ⟨q, hq, rfl, hs, hk⟩
 have Jt := aa (tC.out.step hs hk)
 have G2 := aa (G1.out.kp (sb := sb) (by omega) hk)
 have hzk := hk.size
 clear hs hk tC G1
 go_wp2_with fail
 refine (jr _ _).mono ?_
 rintro e' v3 ⟨rfl, hb⟩
 have HE3 := aa (Jt.out.calm hb)
 have G3 := aa (G2.out.calm hb)
 have vB : v2.heap.size ≤ v3.heap.size := hb.size
 clear hb Jt G2
 go_wp2_with fail
 refine (aJ _ _ _ _ _ _).mono ?_
 rintro e' v4 ⟨rfl, hb⟩
 have H7 : Row v2.heap.size _ _ (b8 0 0 ⟨#[]⟩ (ax 22 q ⟨#[]⟩)) _ := LV.one (A := ax 22 q ⟨#[]⟩) vB (dL _ _ _ _ _ _)
 have R4 : Hid (Row v2.heap.size v4.heap.size v4 (b8 20 0 ⟨#[]⟩ (ax 22 q ⟨#[]⟩)) (.slice (some ⟨v3.heap.size, 0, none⟩) 1 1)) := (ar (T := b8 20 0 ⟨#[]⟩ (ax 22 q ⟨#[]⟩))).2 ((ar (T := b8 0 0 ⟨#[]⟩ (ax 22 q ⟨#[]⟩))).1 (bl (ah hb lr H7) lr hb.size))
 have ey := (bO v3 (.cells #[.int .i64 22, .int .i64 (q : Int), .string ⟨#[]⟩, .slice none 0 0] 25)).trans (hb.mono (by simp))
 have HE4 := aa (HE3.out.calm ey)
 have G4 := aa (G3.out.calm ey)
 have Ot : v2.heap.size ≤ v4.heap.size := Nat.le_trans vB ey.size
 clear hb ey H7 HE3 G3
 go_wp2_with fail
 refine (aJ _ _ _ _ _ _).mono ?_
 rintro e' v5 ⟨rfl, hb⟩
 have H7 : Row v2.heap.size _ _ (b8 0 0 ⟨#[]⟩ (b8 20 0 ⟨#[]⟩ (ax 22 q ⟨#[]⟩))) _ := LV.one (A := b8 20 0 ⟨#[]⟩ (ax 22 q ⟨#[]⟩)) Ot R4.out
 have R5 : Hid (Row v2.heap.size v5.heap.size v5 (b8 4 0 ⟨#[]⟩ (b8 20 0 ⟨#[]⟩ (ax 22 q ⟨#[]⟩))) (.slice (some ⟨v4.heap.size, 0, none⟩) 1 1)) := (ar (T := b8 4 0 ⟨#[]⟩ (b8 20 0 ⟨#[]⟩ (ax 22 q ⟨#[]⟩)))).2 ((ar (T := b8 0 0 ⟨#[]⟩ (b8 20 0 ⟨#[]⟩ (ax 22 q ⟨#[]⟩)))).1 (bl (ah hb lr H7) lr hb.size))
 have ey := (bO v4 (.cells #[.int .i64 20, .int .i64 0, .string ⟨#[]⟩, .slice (some ⟨v3.heap.size, 0, none⟩) 1 1] 25)).trans (hb.mono (by simp))
 have HE5 := aa (HE4.out.calm ey)
 have G5 := aa (G4.out.calm ey)
 have Oq : v2.heap.size ≤ v5.heap.size := Nat.le_trans Ot ey.size
 clear hb ey H7 HE4 G4
 go_wp2_with fail
 refine (bZ _ _ _ _ _ _ _).mono ?_
 rintro e' v6 ⟨rfl, hb⟩
 have H7 : Row v2.heap.size _ _ (b8 0 0 ⟨#[]⟩ (b8 4 0 ⟨#[]⟩ (b8 20 0 ⟨#[]⟩ (ax 22 q ⟨#[]⟩)))) _ := LV.one (A := b8 4 0 ⟨#[]⟩ (b8 20 0 ⟨#[]⟩ (ax 22 q ⟨#[]⟩))) Oq R5.out
 have R6 : Hid (Row v2.heap.size v6.heap.size v6 (b8 2 0 ⟨#[84, 101, 115, 116, 48]⟩ (b8 4 0 ⟨#[]⟩ (b8 20 0 ⟨#[]⟩ (ax 22 q ⟨#[]⟩)))) (.slice (some ⟨v5.heap.size, 0, none⟩) 1 1)) := (ar (T := b8 2 0 ⟨#[84, 101, 115, 116, 48]⟩ (b8 4 0 ⟨#[]⟩ (b8 20 0 ⟨#[]⟩ (ax 22 q ⟨#[]⟩))))).2 ((ar (T := b8 0 0 ⟨#[]⟩ (b8 4 0 ⟨#[]⟩ (b8 20 0 ⟨#[]⟩ (ax 22 q ⟨#[]⟩))))).1 (bl (ah hb lr H7) lr hb.size))
 have ey := (bO v5 (.cells #[.int .i64 4, .int .i64 0, .string ⟨#[]⟩, .slice (some ⟨v4.heap.size, 0, none⟩) 1 1] 25)).trans (hb.mono (by simp))
 have HE6 := aa (HE5.out.calm ey)
 have G6 := aa (G5.out.calm ey)
 have Oo : v2.heap.size ≤ v6.heap.size := Nat.le_trans Oq ey.size
 clear hb ey H7 HE5 G5
 have hlF : Row v2.heap.size _ _ (b8 0 0 ⟨#[]⟩ (b8 2 0 ⟨#[84, 101, 115, 116, 48]⟩ (b8 4 0 ⟨#[]⟩ (b8 20 0 ⟨#[]⟩ (ax 22 q ⟨#[]⟩))))) _ := LV.one (A := b8 2 0 ⟨#[84, 101, 115, 116, 48]⟩ (b8 4 0 ⟨#[]⟩ (b8 20 0 ⟨#[]⟩ (ax 22 q ⟨#[]⟩)))) Oo R6.out
 have vK := bO v6 (.cells #[.int .i64 2, .int .i64 0, .string ⟨#[84, 101, 115, 116, 48]⟩, .slice (some ⟨v5.heap.size, 0, none⟩) 1 1] 25)
 have hsz6 := HE6.out.size
 obtain ⟨aj, cj, v7, vs, fk, Rr, aX, fy⟩ := jc (T := b8 0 0 ⟨#[]⟩ (b8 2 0 ⟨#[84, 101, 115, 116, 48]⟩ (b8 4 0 ⟨#[]⟩ (b8 20 0 ⟨#[]⟩ (ax 22 q ⟨#[]⟩))))) (G6.out.calm vK) hlF (by simp; omega) (by omega) (by simp; omega) lr (fun g hg => .inl (by simp [Value.ownBlock] at hg; omega)) (by show 4 + 1 ≤ _; omega)
 have HE7 := aa ((HE6.out.calm vK).grown aX (fun k hk => by simp [Value.ownBlock] at hk; omega))
 have qz := aa fk
 have G7 := aa Rr
 clear hlF vK Rr aX fy fk G6 HE6
 go_wp2_with (at_builtin; refine fq _ rfl _ _ 23 rfl _ _ _ _ rfl rfl qz.out ?_; clear qz)
 refine (bZ _ _ _ _ _ _ _).mono ?_
 rintro e' v8 ⟨rfl, hb⟩
 have HE8 := aa (HE7.out.calm hb)
 have R8 := aa ((G7.out.calm hb).row (lo := w.heap.size + 1) lr 1 0 ⟨#[]⟩)
 obtain ⟨f0, f1, f2, f3, ff⟩ := HE8.out.cells
 clear hb G7 HE7
 go_wp2
 refine bodyPost_ret (HE8.out.read Tryz.results19 rfl _ _ _ _) rfl ⟨tU q, aj, cj, rfl, ?_⟩
 exact (HE8.out.fin (T := tU q) (P := fun T => cK T = 0) (C := 1000000) R8.out (pG q (by omega)).1 (pG q (by omega)).2.1 (pG q (by omega)).2.2).more (by omega)) : G := h
theorem bn1 (h : G := by
 clear dK dD
 exact bn3) : G := h
theorem OR (h : G := by
 exact bn3) : G := h
theorem bn3 (h : G := by
 go_simp
 exact cH.out v (fun _ _ _ h => h) (HS.out.same (by omega) cz (by decide) (by decide) rfl) _ rfl (by decide)) : G := h
theorem bn4 (h : G := by
 have bK := cR (f := 40) (j := 9) iO.out (by kernel_rfl) cz
 have aM := cR (f := 40) (j := 11) iO.out (by kernel_rfl) cz
 obtain ⟨dK, dD⟩ := HS.out.pre bK
 have iG : wX.heap.size ≤ v.heap.size := by have := dD.size; omega
 first
 |clear k_n4_0
  have FO := aa (bl (gU RLP.out (by omega) lr dD) lr dD.size)
  go_simp
  exact cH.out _ (qx (Wn.of_calm (bA)) bK aM) (HS.out.calm (by omega) cz (by decide) (by decide) rfl bK aM (bA)) _ ⟨b8 0 0 ⟨#[]⟩ (Nd.mk 4 0 ⟨#[]⟩ jb Tb), _, _, rfl, rfl, LV.one (A := Nd.mk 4 0 ⟨#[]⟩ jb Tb) iG FO.out⟩ (by decide)
 |clear k_n4_1
  clear hx7 hr7
  go_simp
  exact cH.out _ (qx (Wn.of_calm (bA)) bK aM) (HS.out.calm (by omega) cz (by decide) (by decide) rfl bK aM (bA)) _ ⟨b8 0 0 ⟨#[]⟩ T7, _, _, ⟨T7, hp7, rfl⟩, rfl, LV.one iG HR.out⟩ (by decide)) : G := h
theorem bn5 (h : G := by
 have k_n8_1 := kk
 exact bn8) : G := h
theorem bn6 (h : G := by
 have k_n9_1 := kk
 exact bn9) : G := h
theorem bn7 (h : G := by
 have bK := cR (f := 40) (j := 9) iO.out (by kernel_rfl) cz
 have aM := cR (f := 40) (j := 11) iO.out (by kernel_rfl) cz
 obtain ⟨dK, dD⟩ := HS.out.pre bK
 first
 |clear k_n7_0
  go_simp
  refine (bZ _ _ _ _ _ _ _).mono ?_
  rintro e' v2 ⟨rfl, hb⟩
  exact cH.out v2 (qx (Wn.of_calm hb) bK aM) (HS.out.calm (by omega) cz (by decide) (by decide) rfl bK aM hb) _ (TV.node (P := fun _ => True) 2 0 (rp k) (Ip bB BLK.out) ((Wn.of_calm hb).row HR.out)) (by decide)
 |clear k_n7_1
  go_simp
  refine (DG.out _).mono ?_
  rintro e' v2 ⟨rfl, hb⟩
  exact cH.out v2 (qx (Wn.of_calm hb) bK aM) (HS.out.calm (by omega) cz (by decide) (by decide) rfl bK aM hb) _ rfl (by decide)
 |clear k_n7_2
  obtain ⟨z0, z1, z2, z3, zf⟩ := aG (bU BQ.out.obx sT dD)
  exact bn1
 |clear k_n7_3
  obtain ⟨z0, z1, z2, z3, zf⟩ := aG (bU HBP.out mH dD)
  exact bn1) : G := h
theorem bn8 (h : G := by
 have k_n9_2 := kk
 exact bn9) : G := h
theorem bn9 (h : G := by
 have bK := cR (f := 40) (j := 12) iO.out (by kernel_rfl) cz
 have aM := cR (f := 40) (j := 12) iO.out (by kernel_rfl) cz
 obtain ⟨dK, dD⟩ := HS.out.pre bK
 first
 |clear k_n9_0
  obtain ⟨z0, z1, z2, z3, zf⟩ := aG (bU cJ.out mH dD)
  exact bn1
 |clear k_n9_1
  go_simp
  first
  |clear k_n6_0
   refine (bZ _ _ _ _ _ _ _).mono ?_
   rintro e' v2 ⟨rfl, hb⟩
   exact cH.out v2 (lx (Wn.of_calm hb) dE bK aM) (HS.out.calm (by omega) cz (by decide) (by decide) rfl bK aM hb) _ (TV.node (P := fun _ => True) 26 0 ⟨#[]⟩ ⟨q2, iH, rfl⟩ ((Wn.of_calm hb).row HR.out)) (by decide)
  |clear k_n6_1
   refine (dv sb _ 2 v (by omega) (by omega) dK.src).mono ?_
   rintro e' v2 ⟨q2, iH, rfl, hs, hk⟩
   exact cH.out v2 (lx (Wn.of_kp hk (by omega)) dE bK aM) (HS.out.ask (by omega) (by omega) cz (by decide) (by decide) bK aM hs hk) _ ⟨q2, by omega, rfl⟩ (by decide)
  |clear k_n6_2
   refine (jr _ _).mono ?_
   rintro e' v2 ⟨rfl, hb⟩
   exact cH.out v2 (lx (Wn.of_calm hb) dE bK aM) (HS.out.calm (by omega) cz (by decide) (by decide) rfl bK aM hb) _ ⟨q2, iH, rfl⟩ (by decide)
  |clear k_n6_3
   refine (aJ _ _ _ _ _ _).mono ?_
   rintro e' v2 ⟨rfl, hb⟩
   exact cH.out v2 (lx (Wn.of_calm hb) dE bK aM) (HS.out.calm (by omega) cz (by decide) (by decide) rfl bK aM hb) _ (TV.node (P := fun _ => True) 5 0 ⟨#[109]⟩ ⟨q2, iH, rfl⟩ ((Wn.of_calm hb).row HR.out)) (by decide)
 |clear k_n9_2
  have iG := dD.size
  first
  |clear k_n8_0
   obtain ⟨aj, cj, v2, vs, fk, fO, aX, fy⟩ := jc (Ic.weak (show wX.heap.size ≤ wE.heap.size by omega)) (gU RB.out (by omega) (by omega) dD) (by omega) lr QC (by omega) (fun g hg => .inr (by simp [Value.ownBlock] at hg; omega)) (by omega)
   have pW := qs Ic (gU RB.out (by omega) (by omega) dD) (by omega) fk
   refine jW rfl hx Ku (fk _) ?_
   refine cH.out v2 (lx (Wn.of_calm pW) dE bK aM) (HS.out.calm (by omega) cz (by decide) (by decide) rfl bK aM pW) _ ⟨_, _, _, _, aj, cj, rfl, fO, ⟨q2, iH, rfl⟩, ?_, fun i hi => ?_⟩ (by decide)
   ·rcases fy with e | ⟨k, e, hk⟩
    ·rw [e]; simp [Value.ownBlock]; omega
    ·rw [e]; intro h; have := Option.some.inj h; omega
   ·by_cases h3 : i < 1
    ·rw [bw _ _ h3, bw _ _ h3]; left; omega
    ·rw [b5 _ _ (by omega), b5 _ _ (by omega)]; right; omega
  |clear k_n8_1
   go_simp
   first
   |clear k_n5_0
    exact cH.out _ (lx (Wn.of_calm (bA)) dE bK aM) (HS.out.calm (by omega) cz (by decide) (by decide) rfl bK aM (bA)) _ ⟨b8 0 0 ⟨#[]⟩ (ax 22 q2 ⟨#[]⟩), _, _, ⟨q2, iH, rfl⟩, rfl, LV.one (A := ax 22 q2 ⟨#[]⟩) iG (dL _ _ _ _ _ _)⟩ (by decide)
   |clear k_n5_1
    exact cH.out _ (lx (Wn.of_calm (bA)) dE bK aM) (HS.out.calm (by omega) cz (by decide) (by decide) rfl bK aM (bA)) _ ⟨b8 0 0 ⟨#[]⟩ (JU q2), _, _, ⟨q2, iH, rfl⟩, rfl, LV.one (A := JU q2) iG HR.out⟩ (by decide)
   |clear k_n5_2
    exact cH.out _ (lx (Wn.of_calm (bA)) dE bK aM) (HS.out.calm (by omega) cz (by decide) (by decide) rfl bK aM (bA)) _ (GV.new (A := oe q2) ⟨q2, iH, rfl⟩ iG HR.out) (by decide)) : G := h
section
open Go Go.RowKit
def tU (q : Nat) : Nd := .mk 1 0 ⟨#[]⟩ (4 + 1) (dg (ct my) 4 (b8 0 0 ⟨#[]⟩ (b8 2 0 ⟨#[84, 101, 115, 116, 48]⟩ (b8 4 0 ⟨#[]⟩ (b8 20 0 ⟨#[]⟩ (ax 22 q ⟨#[]⟩))))).kids)
theorem pG (q : Nat) (h : q < 9) : (tU q).Fine ∧ cK (tU q) = 0 ∧ (tU q).cost ≤ 1000000 := by
 refine ⟨⟨by omega, by omega, by decide, by omega, fun i hi => ?_⟩, ?_, ?_⟩
 ·by_cases iV : i < 4
  ·rw [bw _ _ iV]; exact (vh i iV).1
  ·rw [b5 _ _ (by omega)]; exact bR (by omega) (by omega) (by decide) (bR (by omega) (by omega) (by decide) (bR (by omega) (by omega) (by decide) (aL (by omega) (by omega) (by decide))))
 ·rcases (by omega : q = 0 ∨ q = 1 ∨ q = 2 ∨ q = 3 ∨ q = 4 ∨ q = 5 ∨ q = 6 ∨ q = 7 ∨ q = 8) with rfl | rfl | rfl | rfl | rfl | rfl | rfl | rfl | rfl <;> kernel_rfl
 ·show ByteArray.size ⟨#[]⟩ + ((4 + 1) + aw (fun i => (dg (ct my) 4 _ i).cost) (4 + 1)) ≤ _
  simp only [aw]
  rcases (by omega : q = 0 ∨ q = 1 ∨ q = 2 ∨ q = 3 ∨ q = 4 ∨ q = 5 ∨ q = 6 ∨ q = 7 ∨ q = 8) with rfl | rfl | rfl | rfl | rfl | rfl | rfl | rfl | rfl <;> decide
end
theorem wh (C K M : Nat) (hC : C ≤ 46184) (hK : K ≤ 100000000) (hM : M ≤ 100) (BD : JL 2 C K M) (sb A : Nat) (w : World) (hA : A + (30 * K + 1000) ≤ 1099511627776) (h : Src sb A w) :
    Calls Tryz.prog 19 #[.pointer (some ⟨sb, 0, none⟩)] w fun e w' => ∃ T a c, e = .returned (T.val (.slice a T.len c)) ∧ Drawn sb (A + (30 * K + 1000)) (fun T => cK T = 0) 1000000 w T (.slice a T.len c) w' := by
  have HD := aa (DW.start h)
  have NX := aa (fun B W (hB : B + 3 ≤ 1099511627776) (hd : DW sb B w W) (k : Nat) (hk : k ≤ 100) => dv sb B k W hB (by omega) hd.src)
  have nW : sb < w.heap.size := h.lt
  have Cd := aa BD
  have bI := jz
  unfold eF at *
  clear h
  go_enter Tryz.func19, Tryz.ntmps19
  go_wp2_with fail
  refine (qq _).mono ?_
  rintro e w1 ⟨vb, rfl, gg, hb⟩
  rw [World.size_alloc] at gg
  have mr := aa (HD.out.calm hb)
  obtain ⟨gb, ub, rfl, hgb1, hgb2, fO⟩ : ∃ g us, vb = .slice (some ⟨g, 0, none⟩) 4 4 ∧ w.heap.size + 1 ≤ g ∧ g < w1.heap.size ∧ Gw (w.heap.size + 1) (ct my) us (fun _ => w.heap.size + 1) (fun _ => g) 4 (.slice (some ⟨g, 0, none⟩) 4 4) w1 := vZ gg (by decide)
  have HGW := aa fO
  clear hb HD gg fO
  go_wp2_with fail
  refine (bZ _ _ _ _ _ _ _).mono ?_
  rintro e w2 ⟨rfl, hb⟩
  have ec := hb.size
  have eZ := mr.out.size
  have PE0 : Hid (PE sb A (7 * C + 250) w w2.heap.size 0 (w2.alloc (gH 1 0 ⟨#[]⟩ (some ⟨gb, 0, none⟩) 4 4))) := by
    have ey := bO w2 (gH 1 0 ⟨#[]⟩ (some ⟨gb, 0, none⟩) 4 4)
    exact ⟨ct my, ub, _, _, some ⟨gb, 0, none⟩, 4, (mr.out.calm hb).calm ey, by omega, heap_alloc_new w2 _, (HGW.out.calm hb).calm ey, fun e => by simp [Value.ownBlock] at e; omega, fun i hi => .inr (by omega), fun i hi => vh i (by omega), by show aw (fun i => (ct my i).cost) 4 ≤ 1000 + 0 * _; have := E3; omega⟩
  have sT : w2.heap.size ≠ sb := by omega
  clear hb mr HGW
  go_wp2_with fail
  go_loopw [4] (fun i wr => ∃ (k : Nat), i = .int .i64 k ∧ k ≤ 2 ∧ PE sb (A + k * (13 * K + 30)) (7 * C + 250) w w2.heap.size k wr) (fun i _ => 2 - (intOf i).toNat)
  case atStart => exact ⟨0, rfl, by omega, by rw [Nat.zero_mul, Nat.add_zero]; exact PE0.out⟩
  case round =>
    obtain ⟨k, rfl, jR, Ts, us, s, e, ka, kc, hpi⟩ := hrel
    have BR := aa hpi
    have yQ := hpi.low
    clear hpi PE0
    by_cases bB : k < 2
    · skip
      have hki : (k : Int) < 2 := by omega
      have OF : k * (13 * K + 30) ≤ 1 * (13 * K + 30) := Nat.mul_le_mul_right _ (by omega)
      have gX : (k + 1) * (13 * K + 30) = k * (13 * K + 30) + (13 * K + 30) := by rw [Nat.add_mul, Nat.one_mul]
      rw [Nat.one_mul] at OF
      have KQ := aa gX
      clear gX
      generalize k * (13 * K + 30) = Y at OF BR KQ
      go_wp2_with fail
      refine (C2 sb _ _ BR.out.dw.src).mono ?_
      rintro e' w3 ⟨r, hr, rfl, hw3⟩
      subst hw3
      go_wp2_with fail
      refine (NX.out _ _ (by omega) BR.out.dw r (by omega)).mono ?_
      rintro e' wX ⟨q, hq, rfl, hs, hk⟩
      have hq4 : q ≤ 4 := by omega
      have Bx := aa (BR.out.kp hs hk)
      have hwq : IntKind.i64.wrap (2 + (q : Int)) = ((2 + q : Nat) : Int) := by rw [fM (by omega) (by omega)]; omega
      have hmk : (2 + q) * K ≤ 6 * K := Nat.mul_le_mul_right _ (by omega)
      have hmc : (2 + q) * C ≤ 6 * C := Nat.mul_le_mul_right _ (by omega)
      clear hs hk BR
      go_wp2_with fail
      refine (Cd.out sb (A + Y + 3) 0 (2 + q) (.slice none 0 0) false wX (by omega) (by omega) Bx.out.dw.src ⟨none, 0, rfl, by omega, by omega, .inl rfl⟩).mono ?_
      rintro e' wY ⟨TB, uB, rfl, dB⟩
      obtain ⟨aB, cB, rfl⟩ := bc dB.row
      have KR := aa (Bx.out.dw.step dB.src dB.kp)
      have QC := dB.kp.size
      have hzX := Bx.out.dw.size
      have RB := aa (ah (bO wY (gH TB.kind TB.num TB.name aB TB.len cB)) lr dB.row)
      have OE : TB.len = 2 + q := dB.ok.2.2
      have hlB6 : TB.len ≤ 6 := by omega
      obtain ⟨wE, yG⟩ : ∃ W, wY.alloc (gH TB.kind TB.num TB.name aB TB.len cB) = W := ⟨_, rfl⟩
      have N8 : Hid (Kp sb wX (wY.alloc (gH TB.kind TB.num TB.name aB TB.len cB))) := dB.kp.trans (bQ (bO wY _) _) (fun _ _ h => h)
      clear dB OE
      unfold Nd.val
      have tD := aa (KR.out.alloc (gH TB.kind TB.num TB.name aB TB.len cB))
      have cJ := aa (heap_alloc_new wY (gH TB.kind TB.num TB.name aB TB.len cB))
      have hzE : wY.heap.size + 1 ≤ wE.heap.size := by rw [← yG]; simp
      rw [yG] at tD cJ RB N8
      have KM := aa yG
      clear yG KR
      have mH : wY.heap.size ≠ sb := by omega
      have dE : wX.heap.size ≤ wE.heap.size := by omega
      go_upto_region 6 with fail
      rw [show (wY.alloc (Obj.cells #[.int .i64 TB.kind, .int .i64 TB.num, .string TB.name, .slice aB TB.len cB] 25)) = wE from KM.out]
      clear KM
      have jQ : aw (fun i => if i = 1 then 3 else 0) 13 = 3 := by simp [aw]
      have xc : sb < wE.heap.size := by omega
      refine cS bI (by kernel_rfl) Cb (Fa sb wY.heap.size wE.heap.size wX.heap.size aB TB cB) (GS sb (A + Y + 3 + (2 + q) * K + 10) (fun i => if i = 1 then 3 else 0) 13 12 12 w wE (wY.heap.size) (F6 sb (A + Y + 3 + (2 + q) * K + 10 + 3) wX.heap.size wY.heap.size TB w wE)) (GS.start _ tD.out) ?_ ?_
      · intro l a v i hI hr
        have BN : i < 13 := (bo hr).1
        have cz := (bo hr).2
        have xk : l.size = 13 := hI.lsize
        have HS := aa hI.s
        have mG := iP (fun i => if i = 1 then 3 else 0) l 13
        rw [jQ] at mG
        have iO := aa hI.shut
        have cH := aa (fun (v' : World) (hw : ∀ jj x, l.getD jj false = true → Fa sb wY.heap.size wE.heap.size wX.heap.size aB TB cB jj v x → Fa sb wY.heap.size wE.heap.size wX.heap.size aB TB cB jj v' x) (iZ : GS sb (A + Y + 3 + (2 + q) * K + 10) (fun i => if i = 1 then 3 else 0) 13 12 12 w wE (wY.heap.size) (F6 sb (A + Y + 3 + (2 + q) * K + 10 + 3) wX.heap.size wY.heap.size TB w wE) (l.setIfInBounds i true) v') (x : Value) (hx : Fa sb wY.heap.size wE.heap.size wX.heap.size aB TB cB i v' x) (bS : Cb i < 70) => hI.put JF hr bS hw iZ hx)
        have qO := aa (fun (v' : World) (hw : ∀ jj x, l.getD jj false = true → Fa sb wY.heap.size wE.heap.size wX.heap.size aB TB cB jj v x → Fa sb wY.heap.size wE.heap.size wX.heap.size aB TB cB jj v' x) (iZ : GS sb (A + Y + 3 + (2 + q) * K + 10) (fun i => if i = 1 then 3 else 0) 13 12 12 w wE (wY.heap.size) (F6 sb (A + Y + 3 + (2 + q) * K + 10 + 3) wX.heap.size wY.heap.size TB w wE) (l.setIfInBounds i true) v') (hx : ∀ x, Fa sb wY.heap.size wE.heap.size wX.heap.size aB TB cB i v' x) => hI.none hr hw iZ hx)
        have bJ := aa (fun (j : Nat) (hj : j < 13) (hl : l.getD j false = true) => hI.vals j hj hl)
        have bq := aa (fun o (ho : _ = some o) => dM hr (o := o) ho)
        have s0 : a.tmps[0]?.getD undef = .pointer (some ⟨sb, 0, none⟩) := ae (hI.keep 0 (by intro i hi; have h2 : i < 13 := hi; show 0 ≠ Cb i; have : ((List.range 13).all fun i => decide (Cb i ≠ 0)) = true := (by decide); have h3 := List.all_eq_true.1 this i (List.mem_range.2 h2); simp at h3; exact fun e => h3 e.symm))
        have s5 : a.tmps[5]?.getD undef = .pointer (some ⟨wY.heap.size, 0, none⟩) := ae (hI.keep 5 (by intro i hi; have h2 : i < 13 := hi; show 5 ≠ Cb i; have : ((List.range 13).all fun i => decide (Cb i ≠ 5)) = true := (by decide); have h3 := List.all_eq_true.1 this i (List.mem_range.2 h2); simp at h3; exact fun e => h3 e.symm))
        clear hI hr
        rcases (by omega : i = 0 ∨ i = 1 ∨ i = 2 ∨ i = 3 ∨ i = 4 ∨ i = 5 ∨ i = 6 ∨ i = 7 ∨ i = 8 ∨ i = 9 ∨ i = 10 ∨ i = 11 ∨ i = 12) with rfl | rfl | rfl | rfl | rfl | rfl | rfl | rfl | rfl | rfl | rfl | rfl | rfl
        all_goals (refine fN rfl rfl ?_)
        · exact OR
        · have Kx := ae (show a.eval (.tmp 19) = .pointer (some ⟨sb, 0, none⟩) from bJ.out 0 (by omega) (bq.out _ rfl ⟨0, Ground.data⟩ (by simp) rfl))
          have k_n6_1 := kk
          exact bn6
        · obtain ⟨q2, iH, hx⟩ : ∃ q : Nat, q < 2 ∧ a.eval (.tmp 20) = .int .i64 (q : Int) := bJ.out 1 (by omega) (bq.out _ rfl ⟨1, Ground.data⟩ (by simp) rfl)
          have Kv := ae hx
          clear hx
          have k_n6_2 := kk
          exact bn6
        · obtain ⟨q2, iH, hx⟩ : ∃ q : Nat, q < 2 ∧ a.eval (.tmp 21) = .agg #[.int .i64 22, .int .i64 (q : Int), .string ⟨#[]⟩, .slice none 0 0] := bJ.out 2 (by omega) (bq.out _ rfl ⟨2, Ground.data⟩ (by simp) rfl)
          have xy := ae hx
          clear hx
          have k_n5_0 := kk
          exact bn5
        · obtain ⟨T3, a3, c3, yK, mF, DU⟩ : LV wE.heap.size (fun T => ∃ q : Nat, q < 2 ∧ T = b8 0 0 ⟨#[]⟩ (ax 22 q ⟨#[]⟩)) v (a.eval (.tmp 22)) := bJ.out 3 (by omega) (bq.out _ rfl ⟨3, Ground.data⟩ (by simp) rfl)
          obtain ⟨q2, iH, rfl⟩ := yK
          have Im := ae mF
          have HR := aa DU
          clear mF DU
          have k_n6_0 := kk
          exact bn6
        · obtain ⟨T4, a4, c4, hp4, oG, OB⟩ : TV wE.heap.size (fun T => ∃ q : Nat, q < 2 ∧ T = JU q) v (a.eval (.tmp 23)) := bJ.out 4 (by omega) (bq.out _ rfl ⟨4, Ground.data⟩ (by simp) rfl)
          obtain ⟨q2, iH, rfl⟩ := hp4
          have Bc := ae oG
          unfold Nd.val at Bc
          have HR := aa OB
          clear oG OB
          have k_n5_1 := kk
          exact bn5
        · obtain ⟨T5, a5, c5, Q5, J0, Kb⟩ : LV wE.heap.size (fun T => ∃ q : Nat, q < 2 ∧ T = b8 0 0 ⟨#[]⟩ (JU q)) v (a.eval (.tmp 24)) := bJ.out 5 (by omega) (bq.out _ rfl ⟨5, Ground.data⟩ (by simp) rfl)
          obtain ⟨q2, iH, rfl⟩ := Q5
          have Il := ae J0
          have HR := aa Kb
          clear J0 Kb
          have k_n6_3 := kk
          exact bn6
        · obtain ⟨T6, a6, c6, hp6, QG, Q0⟩ : TV wE.heap.size (fun T => ∃ q : Nat, q < 2 ∧ T = oe q) v (a.eval (.tmp 25)) := bJ.out 6 (by omega) (bq.out _ rfl ⟨6, Ground.data⟩ (by simp) rfl)
          obtain ⟨q2, iH, rfl⟩ := hp6
          have FJ := ae QG
          unfold Nd.val at FJ
          have HR := aa Q0
          clear QG Q0
          have k_n5_2 := kk
          exact bn5
        · exact OR
        · have Ik := ae (show a.eval (.tmp 27) = .pointer (some ⟨wY.heap.size, 3, none⟩) from bJ.out 8 (by omega) (bq.out _ rfl ⟨8, Ground.data⟩ (by simp) rfl))
          have k_n9_0 := kk
          exact bn9
        · obtain ⟨A3, u3, g3, ⟨q2, iH, rfl⟩, mg, hx, Ic⟩ : GV wE.heap.size (fun T => ∃ q : Nat, q < 2 ∧ T = oe q) v (a.eval (.tmp 26)) := bJ.out 7 (by omega) (bq.out _ rfl ⟨7, Ground.data⟩ (by simp) rfl)
          have Ku : a.eval (.tmp 28) = .slice aB TB.len cB := bJ.out 9 (by omega) (bq.out _ rfl ⟨9, Ground.data⟩ (by simp) rfl)
          have k_n8_0 := kk
          exact bn8
        · exact OR
        · have h30 := ae (show a.eval (.tmp 30) = .pointer (some ⟨wY.heap.size, 3, none⟩) from bJ.out 11 (by omega) (bq.out _ rfl ⟨11, Ground.data⟩ (by simp) rfl))
          obtain ⟨Ts2, Pj, s2, e2, a2, c2, hx, fO, ⟨q2, iH, rfl⟩, uN, vD⟩ : AV wX.heap.size wY.heap.size (1 + TB.len) (fun Ts => ∃ q : Nat, q < 2 ∧ Ts = dg (fun _ => oe q) 1 TB.kids) v (a.eval (.tmp 29)) := bJ.out 10 (by omega) (bq.out _ rfl ⟨10, Ground.data⟩ (by simp) rfl)
          have BP := ae hx
          have bK := cG cz
          obtain ⟨dK, dD⟩ := HS.out.pre bK
          have mh := bU cJ.out mH dD
          obtain ⟨z0, z1, z2, z3, zf⟩ := aG mh
          have KV := zf 3
          have HF6 : Hid (F6 sb (A + Y + 3 + (2 + q) * K + 10 + 3) wX.heap.size wY.heap.size TB w wE (v.setCell ⟨wY.heap.size, 3, none⟩ (.slice a2 (1 + TB.len) c2))) := ⟨q2, iH, (show DW sb (A + Y + 3 + (2 + q) * K + 10 + 3) w v from ⟨dK.src.mono (by omega), dK.kp, dK.low⟩).put _ _ _ (by omega), fun k h1 h2 h3 => (Below.heap_setCell _ _ _ _ (by show k ≠ wY.heap.size; exact h3)).trans (dD.block k h1 h2), (by have := dD.size; simpa [World.setCell] using this), Pj, s2, e2, a2, c2, (heap_setCell_same v wY.heap.size 3 _ 25 (.slice a2 (1 + TB.len) c2) mh).trans rfl, fO.put uN vD, vD 0 (by omega)⟩
          clear hx dK dD mh fO zf
          go_simp
          exact qO.out _ (fun j x _ hx => NI (by omega) j x hx) (GS.store (by omega) (.inl rfl) HF6.out) (fun _ => trivial)
      · intro a v bS ku cM q6 fr
        obtain ⟨l, hS, bj⟩ := q6
        have HF := aa (hS.fin (bj 12 (by decide)))
        rw [fB (n := 13) bS ku cM]
        generalize (fun i => a.eval (.tmp (Cb i))) = ff
        clear bS ku cM fr hS bj
        simp only [iE, Act.put, Cb, List.getD_cons_zero, List.getD_cons_succ, List.setIfInBounds_toArray, List.set_cons_succ, List.set_cons_zero, List.set_nil]
        obtain ⟨q2, iH, dK, gK, Hv, Pj, s2, e2, la, lc, fC, fO, hs20⟩ := HF.out
        have Jp := aa (Bx.out.dw.kp2 dK (by omega) (fun k h1 h2 => (gK k (by omega) h2 (by omega)).trans (N8.out.block k h1 h2)))
        have HPG := aa (Bx.out.kp dK.src Jp.out)
        have Ca := aa fC
        have QD := (Array.getElem?_eq_some_iff.1 fC).1
        obtain ⟨kd0, kd1, kd2, kd3⟩ := Gw.kd (sb := sb) fO (by omega) (by omega)
        have KD0 : Hid (KD sb (s2 0) (e2 0) (oe q2) la v) := kd0
        have hobX := (Array.getElem?_eq_some_iff.1 Bx.out.obx).1
        obtain ⟨wG, J3⟩ : ∃ W, W = v := ⟨_, rfl⟩
        rw [← J3] at HPG Ca QD KD0 kd3 Jp ⊢
        clear dK fO HF fC cJ tD RB J3 gK N8 Hv kd0
        obtain ⟨x0, x1, x2, x3, xf⟩ := aG Ca.out
        go_wp2_with fail
        refine (E7 C K M (by omega) hK hM Cd.out sb (A + Y + 3 + (2 + q) * K + 10 + 3) (s2 0) (e2 0) (cm (oe q2) TB) la lc wG (by omega) (by show 1 ≤ 1 + TB.len; omega) (by show 1 + TB.len ≤ 7; omega) HPG.out.dw.src (by omega) kd2 kd3 KD0.out (IJ q2 iH)).mono ?_
        rintro e' wH ⟨jb, Tb, ubb, sbb, ebb, yE, ur, rfl, Rp, Kd, Ki, Kq, QU, dD⟩
        have HPH := aa (HPG.out.kp QU dD)
        have HBH := aa (bU Ca.out mH dD)
        have hzH := dD.size
        have BLK := aa Kq
        have Rq := Rp.keep (w' := fs wH wY.heap.size 4 0 ⟨#[]⟩ (.slice yE jb ur)) (by rw [fV]; exact Nat.le_refl _) (fun k _ _ hh => eV wH _ _ _ _ _ k (by
          rcases hh with hh | ⟨i, hi, h1, h2⟩
          · have := Kd k hh; omega
          · have := Ki i hi; omega))
        have RLP := aa ((Rq.weak kd1).row lr 4 0 ⟨#[]⟩)
        have HBP := aa (Hb 4 0 ⟨#[]⟩ yE jb ur HBH.out)
        have hzP := fV wH wY.heap.size 4 0 ⟨#[]⟩ (.slice yE jb ur)
        have DWP := aa (HPH.out.dw.any (W' := fs wH wY.heap.size 4 0 ⟨#[]⟩ (.slice yE jb ur)) rfl rfl rfl (by rw [hzP]; exact Nat.le_refl _) (fun k hk => eV wH _ _ _ _ _ k (by omega)))
        have BQ := aa (Bx.out.kp DWP.out.src (Bx.out.dw.kp2 DWP.out (by omega) (fun k h1 h2 => (eV wH _ _ _ _ _ k (by omega)).trans ((dD.block k (by have := Jp.out.size; omega) h2).trans (Jp.out.block k h1 h2)))))
        obtain ⟨y0, y1, y2, y3, yf⟩ := aG HBH.out
        have yf0 := yf 0
        have yf1 := yf 1
        have yf2 := yf 2
        have yf3 := yf 3
        obtain ⟨wP, hwP⟩ : ∃ W, fs wH wY.heap.size 4 0 ⟨#[]⟩ (.slice yE jb ur) = W := ⟨_, rfl⟩
        rw [hwP] at RLP HBP DWP BQ hzP
        have HWP := aa hwP
        have hzP2 : wH.heap.size ≤ wP.heap.size := by omega
        clear hwP Rq Rp Kd Ki Kq QU dD HPH HPG Ca KD0 Jp x0 x1 x2 x3 xf yf hzP
        go_upto_region 8 with fail
        rw [show ((((wH.setCell ⟨wY.heap.size, 0, none⟩ (.int .i64 4)).setCell ⟨wY.heap.size, 1, none⟩ (.int .i64 0)).setCell ⟨wY.heap.size, 2, none⟩ (.string ⟨#[]⟩)).setCell ⟨wY.heap.size, 3, none⟩ (.slice yE jb ur)) = wP from HWP.out]
        clear HWP y0 y1 y2 y3 yf0 yf1 yf2 yf3 HBH
        have pQ : (eQ (eM 20 k)).size ≤ 1000 := by have := km 20 k; rw [lE]; omega
        have DG := aa (fun W => zi k W (by omega))
        have J6 : aw (fun _ => 0) 12 = 0 := by simp [aw]
        refine cS bI (by kernel_rfl) zz (E9 w2.heap.size wX.heap.size (w.heap.size + 1) (7 * C + 250) (4 + k) k Ts ka yE kc ur (Nd.mk 4 0 ⟨#[]⟩ jb Tb)) (GS sb (A + Y + 3 + (2 + q) * K + 10 + 3 + (7 * K + 10)) (fun _ => 0) 12 9 11 w wP (w2.heap.size) (PE sb (A + Y + 3 + (2 + q) * K + 10 + 3 + (7 * K + 10)) (7 * C + 250) w w2.heap.size (k + 1))) (GS.start _ BQ.out.dw) ?_ ?_
        · intro l a v i hI hr
          have BN : i < 12 := (bo hr).1
          have cz := (bo hr).2
          have xk : l.size = 12 := hI.lsize
          have HS := aa hI.s
          have mG := iP (fun _ => 0) l 12
          rw [J6] at mG
          have iO := aa hI.shut
          have cH := aa (fun (v' : World) (hw : ∀ jj x, l.getD jj false = true → E9 w2.heap.size wX.heap.size (w.heap.size + 1) (7 * C + 250) (4 + k) k Ts ka yE kc ur (Nd.mk 4 0 ⟨#[]⟩ jb Tb) jj v x → E9 w2.heap.size wX.heap.size (w.heap.size + 1) (7 * C + 250) (4 + k) k Ts ka yE kc ur (Nd.mk 4 0 ⟨#[]⟩ jb Tb) jj v' x) (iZ : GS sb (A + Y + 3 + (2 + q) * K + 10 + 3 + (7 * K + 10)) (fun _ => 0) 12 9 11 w wP (w2.heap.size) (PE sb (A + Y + 3 + (2 + q) * K + 10 + 3 + (7 * K + 10)) (7 * C + 250) w w2.heap.size (k + 1)) (l.setIfInBounds i true) v') (x : Value) (hx : E9 w2.heap.size wX.heap.size (w.heap.size + 1) (7 * C + 250) (4 + k) k Ts ka yE kc ur (Nd.mk 4 0 ⟨#[]⟩ jb Tb) i v' x) (bS : zz i < 70) => hI.put JE hr bS hw iZ hx)
          have qO := aa (fun (v' : World) (hw : ∀ jj x, l.getD jj false = true → E9 w2.heap.size wX.heap.size (w.heap.size + 1) (7 * C + 250) (4 + k) k Ts ka yE kc ur (Nd.mk 4 0 ⟨#[]⟩ jb Tb) jj v x → E9 w2.heap.size wX.heap.size (w.heap.size + 1) (7 * C + 250) (4 + k) k Ts ka yE kc ur (Nd.mk 4 0 ⟨#[]⟩ jb Tb) jj v' x) (iZ : GS sb (A + Y + 3 + (2 + q) * K + 10 + 3 + (7 * K + 10)) (fun _ => 0) 12 9 11 w wP (w2.heap.size) (PE sb (A + Y + 3 + (2 + q) * K + 10 + 3 + (7 * K + 10)) (7 * C + 250) w w2.heap.size (k + 1)) (l.setIfInBounds i true) v') (hx : ∀ x, E9 w2.heap.size wX.heap.size (w.heap.size + 1) (7 * C + 250) (4 + k) k Ts ka yE kc ur (Nd.mk 4 0 ⟨#[]⟩ jb Tb) i v' x) => hI.none hr hw iZ hx)
          have bJ := aa (fun (j : Nat) (hj : j < 12) (hl : l.getD j false = true) => hI.vals j hj hl)
          have bq := aa (fun o (ho : _ = some o) => dM hr (o := o) ho)
          have s3 : a.tmps[3]?.getD undef = .pointer (some ⟨w2.heap.size, 0, none⟩) := ae (hI.keep 3 (by intro i hi; have h2 : i < 12 := hi; show 3 ≠ zz i; have : ((List.range 12).all fun i => decide (zz i ≠ 3)) = true := (by decide); have h3 := List.all_eq_true.1 this i (List.mem_range.2 h2); simp at h3; exact fun e => h3 e.symm))
          have s4 : a.tmps[4]?.getD undef = .int .i64 (k : Int) := ae (hI.keep 4 (by intro i hi; have h2 : i < 12 := hi; show 4 ≠ zz i; have : ((List.range 12).all fun i => decide (zz i ≠ 4)) = true := (by decide); have h3 := List.all_eq_true.1 this i (List.mem_range.2 h2); simp at h3; exact fun e => h3 e.symm))
          have s5 : a.tmps[5]?.getD undef = .pointer (some ⟨wY.heap.size, 0, none⟩) := ae (hI.keep 5 (by intro i hi; have h2 : i < 12 := hi; show 5 ≠ zz i; have : ((List.range 12).all fun i => decide (zz i ≠ 5)) = true := (by decide); have h3 := List.all_eq_true.1 this i (List.mem_range.2 h2); simp at h3; exact fun e => h3 e.symm))
          clear hI hr
          rcases (by omega : i = 0 ∨ i = 1 ∨ i = 2 ∨ i = 3 ∨ i = 4 ∨ i = 5 ∨ i = 6 ∨ i = 7 ∨ i = 8 ∨ i = 9 ∨ i = 10 ∨ i = 11) with rfl | rfl | rfl | rfl | rfl | rfl | rfl | rfl | rfl | rfl | rfl | rfl
          all_goals (refine fN rfl rfl ?_)
          · exact OR
          · have h34 := ae (show a.eval (.tmp 34) = .pointer (some ⟨w2.heap.size, 3, none⟩) from bJ.out 0 (by omega) (bq.out _ rfl ⟨0, Ground.data⟩ (by simp) rfl))
            have k_n7_2 := kk
            exact bn7
          · exact OR
          · have h36 := ae (show a.eval (.tmp 36) = .int .i64 (k : Int) from bJ.out 2 (by omega) (bq.out _ rfl ⟨2, Ground.data⟩ (by simp) rfl))
            have k_n7_1 := kk
            exact bn7
          · have h37 := ae (show a.eval (.tmp 37) = .string (eQ (eM 20 k)) from bJ.out 3 (by omega) (bq.out _ rfl ⟨3, Ground.data⟩ (by simp) rfl))
            have h4 : ByteArray.size ⟨#[84, 101, 115, 116]⟩ = 4 := by decide
            have hadd : ¬ (ByteArray.size ⟨#[84, 101, 115, 116]⟩ + (eQ (eM 20 k)).size > 9223372036854775807) := by omega
            have hadd2 : ¬ (9223372036854775807 < ByteArray.size ⟨#[84, 101, 115, 116]⟩ + (eQ (eM 20 k)).size) := hadd
            have hadd3 : ¬ (9223372036854775807 < 4 + (eQ (eM 20 k)).size) := by omega
            have hadds := fun W => run_string_add_sum (P := Tryz.prog) (w := W) ⟨#[84, 101, 115, 116]⟩ (eQ (eM 20 k)) (by omega)
            go_simp
            exact cH.out v (fun _ _ _ h => h) (HS.out.same (by omega) cz (by decide) (by decide) rfl) (.string ((⟨#[84, 101, 115, 116]⟩ : ByteArray) ++ eQ (eM 20 k))) rfl (by decide)
          · have k_n7_3 := kk
            exact bn7
          · have h39 := ae (show a.eval (.tmp 39) = .agg #[.int .i64 (Nd.mk 4 0 ⟨#[]⟩ jb Tb).kind, .int .i64 (Nd.mk 4 0 ⟨#[]⟩ jb Tb).num, .string (Nd.mk 4 0 ⟨#[]⟩ jb Tb).name, .slice yE (Nd.mk 4 0 ⟨#[]⟩ jb Tb).len ur] from bJ.out 5 (by omega) (bq.out _ rfl ⟨5, Ground.data⟩ (by simp) rfl))
            have k_n4_0 := kk
            exact bn4
          · have h38 := ae (show a.eval (.tmp 38) = .string (rp k) from bJ.out 4 (by omega) (bq.out _ rfl ⟨4, Ground.data⟩ (by simp) rfl))
            obtain ⟨T6, a6, c6, hp6, QG, Q0⟩ : LV wX.heap.size (fun T => T = b8 0 0 ⟨#[]⟩ (Nd.mk 4 0 ⟨#[]⟩ jb Tb)) v (a.eval (.tmp 40)) := bJ.out 6 (by omega) (bq.out _ rfl ⟨6, Ground.data⟩ (by simp) rfl)
            subst hp6
            have h40 := ae QG
            have HR := aa Q0
            clear QG Q0
            have k_n7_0 := kk
            exact bn7
          · obtain ⟨T7, a7, c7, hp7, hx7, hr7⟩ : TV wX.heap.size (FW (7 * C + 250)) v (a.eval (.tmp 41)) := bJ.out 7 (by omega) (bq.out _ rfl ⟨7, Ground.data⟩ (by simp) rfl)
            have h41 := ae hx7
            unfold Nd.val at h41
            have HR := aa hr7
            have k_n4_1 := kk
            exact bn4
          · have h35 : a.eval (.tmp 35) = .slice ka (4 + k) kc := bJ.out 1 (by omega) (bq.out _ rfl ⟨1, Ground.data⟩ (by simp) rfl)
            obtain ⟨T3, a3, c3, ⟨A3, yK, rfl⟩, hx, DU⟩ : LV wX.heap.size (fun T => ∃ A, FW (7 * C + 250) A ∧ T = b8 0 0 ⟨#[]⟩ A) v (a.eval (.tmp 42)) := bJ.out 8 (by omega) (bq.out _ rfl ⟨8, Ground.data⟩ (by simp) rfl)
            have bK := cG cz
            have aM := cR (f := 40) (j := 11) iO.out (by kernel_rfl) cz
            obtain ⟨dK, dD⟩ := HS.out.pre bK
            have iG : wX.heap.size ≤ v.heap.size := by have := dD.size; omega
            obtain ⟨xj, v2, fk, aX, fg⟩ := PI.join (BQ.out.gw.kp (sb := sb) (by omega) dD) BQ.out.ne BQ.out.ap DU yK (by omega) (by omega) iG lr (fun g hg => (Bx.out.gw.own.lt g hg).2) (by omega)
            refine jW rfl h35 hx (fk _) ?_
            exact cH.out v2 (qx (Wn.of_grown aX (fun k hk => (Bx.out.gw.own.lt k hk).2)) bK aM) (HS.out.join (by omega) cz (by decide) aM (by omega) sT aX (fun k hk => ⟨by have := (Bx.out.gw.own.lt k hk).1; omega, fun e => Bx.out.ne (e ▸ hk)⟩)) _ fg (by decide)
          · exact OR
          · have h44 := ae (show a.eval (.tmp 44) = .pointer (some ⟨w2.heap.size, 3, none⟩) from bJ.out 10 (by omega) (bq.out _ rfl ⟨10, Ground.data⟩ (by simp) rfl))
            have fg : AV (w.heap.size + 1) w2.heap.size (4 + k + 1) (fun Us => ∃ A, FW (7 * C + 250) A ∧ Us = dg Ts (4 + k) (b8 0 0 ⟨#[]⟩ A).kids) v (a.eval (.tmp 43)) := bJ.out 9 (by omega) (bq.out _ rfl ⟨9, Ground.data⟩ (by simp) rfl)
            have qZ : l.getD 9 false = true := bq.out _ rfl ⟨9, Ground.data⟩ (by simp) rfl
            obtain ⟨dK, gP⟩ := HS.out.mid qZ (cG cz)
            rw [J6] at dK
            have mh := gP.trans BQ.out.obx
            obtain ⟨z0, z1, z2, z3, zf⟩ := aG mh
            have KV := zf 3
            obtain ⟨a2, c2, hx, BF⟩ := PI.done dK yQ mh fg BQ.out.ok BQ.out.sum
            have h43 := ae hx
            have FR := aa BF
            clear hx dK gP mh fg BF zf
            go_simp
            exact qO.out _ (fun j x _ hx => NH (by omega) j x hx) (GS.store (by omega) (.inr qZ) FR.out) (fun _ => trivial)
        · intro a v bS ku cM q6 fr
          obtain ⟨l, hS, bj⟩ := q6
          have HF := aa (hS.fin (bj 11 (by decide)))
          rw [fB (n := 12) bS ku cM]
          generalize (fun i => a.eval (.tmp (zz i))) = ff
          clear bS ku cM fr hS bj
          simp only [iE, Act.put, zz, List.getD_cons_zero, List.getD_cons_succ, List.setIfInBounds_toArray, List.set_cons_succ, List.set_cons_zero, List.set_nil]
          have HPE := aa (PI.more (A' := A + (k + 1) * (13 * K + 30)) HF.out (by rw [KQ.out]; omega))
          clear HF BQ Bx
          go_wp2
          exact ⟨⟨k + 1, by go_num, by omega, HPE.out⟩, by simp [intOf]; omega⟩
    · skip
      obtain rfl : k = 2 := by omega
      have hki : ¬ (((2 : Nat) : Int) < 2) := by omega
      have hsum2 : aw (fun i => (Ts i).cost) 6 ≤ 1000 + 2 * (7 * C + 250) := BR.out.sum
      have Mp : wr.heap[w2.heap.size]? = some (gH 1 0 ⟨#[]⟩ ka 6 kc) := BR.out.obx
      obtain ⟨o0, o1, o2, o3, of⟩ := aG Mp
      have yU : (Nd.mk 1 0 ⟨#[]⟩ 6 Ts).Fine := ⟨by omega, by omega, by decide, by omega, fun i hi => (BR.out.ok i hi).1⟩
      have eS : (Nd.mk 1 0 ⟨#[]⟩ 6 Ts).cost ≤ 1000000 := by
        show ByteArray.size ⟨#[]⟩ + (6 + aw (fun i => (Ts i).cost) 6) ≤ _
        have e0 : ByteArray.size ⟨#[]⟩ = 0 := by decide
        omega
      have Rw : ∀ i, i < 6 → cZ (Ts i) = true := fun i hi => (BR.out.ok i hi).2
      have HFUN := aa Rw
      have dO := BR.out.gw.row (lo := w.heap.size + 1) lr 1 0 ⟨#[]⟩
      have nF : Hid (Row (w.heap.size + 1) wr.heap.size wr (Nd.mk 1 0 ⟨#[]⟩ 6 Ts) (.slice ka 6 kc)) := dO
      have VH := aa (fun W (hb : Below wr.heap.size wr W) => uh (Nd.mk 1 0 ⟨#[]⟩ 6 Ts) W 600 (.slice ka 6 kc) wr.heap.size yU hb.size (ah hb lr (bl nF.out (Nat.zero_le _) lr)) (by omega))
      have ALL := aa (fun (ht : dh (Nd.mk 1 0 ⟨#[]⟩ 6 Ts) = true) W (hb : Below wr.heap.size wr W) => vj (Nd.mk 1 0 ⟨#[]⟩ 6 Ts) W (.slice ka 6 kc) wr.heap.size ht yU hb.size (ah hb lr (bl nF.out (Nat.zero_le _) lr)) (by omega))
      have HFC := aa (And.intro yU eS)
      have BY := aa BR.out.dw
      have HOX := aa Mp
      clear yU eS Rw dO Mp BR
      go_wp2_with fail
      refine (VH.out wr (Below.refl _ _)).mono ?_
      rintro e' wL ⟨rfl, hb⟩
      have bz := aa hb
      clear hb VH
      by_cases bS : (Nd.mk 1 0 ⟨#[]⟩ 6 Ts).size ≤ 600
      · have hl : mb (Nd.mk 1 0 ⟨#[]⟩ 6 Ts).size 600 = ((600 - (Nd.mk 1 0 ⟨#[]⟩ 6 Ts).size : Nat) : Int) := if_pos bS
        rw [hl]
        have ht : dh (Nd.mk 1 0 ⟨#[]⟩ 6 Ts) = true := by
          unfold dh
          have h6 : aE (fun i => cZ (Ts i)) 6 = true := eE HFUN.out
          have e0 : al ⟨#[]⟩ = true := by kernel_rfl
          simp only [Nd.kind, Nd.num, Nd.name, Nd.len, Nd.kids, h6, e0, bS, decide_true, Bool.and_true]
        have HT := aa ht
        clear ht
        generalize (600 - (Nd.mk 1 0 ⟨#[]⟩ 6 Ts).size) = lf
        have hnn : ¬ ((lf : Int) < 0) := by omega
        have oL := aG (bm HOX.out bz.out)
        obtain ⟨p0, p1, p2, p3, pf⟩ := oL
        go_wp2_with fail
        refine (ALL.out HT.out wL bz.out).mono ?_
        rintro e' wA ⟨cb, rfl, hd⟩
        have oO := aa (bz.out.trans (hd.below.mono bz.out.size))
        cases hM : dp (Nd.mk 1 0 ⟨#[]⟩ 6 Ts) with
        | ok X =>
          have hc : wA.cell? ⟨cb, 5, none⟩ = some (.int .i64 0) := by have := hd.code; rw [hM] at this; exact this
          have oY : Hid (cK (Nd.mk 1 0 ⟨#[]⟩ 6 Ts) = 0) := by unfold Hid cK; rw [HT.out, hM]; rfl
          have vM := aa (BY.out.calm oO.out)
          obtain ⟨r0, r1, r2, r3, rf⟩ := aG (bm HOX.out oO.out)
          obtain ⟨f0, f1, f2, f3, ff⟩ := vM.out.cells
          have HRA := aa (bl (ah oO.out lr nF.out) lr oO.out.size)
          clear hd hM ALL
          go_wp2
          refine bodyPost_ret (vM.out.read Tryz.results19 rfl _ _ _ _) rfl ⟨Nd.mk 1 0 ⟨#[]⟩ 6 Ts, ka, kc, rfl, ?_⟩
          exact (vM.out.fin (P := fun T => cK T = 0) (C := 1000000) HRA.out HFC.out.1 oY.out HFC.out.2).more (by omega)
        | error p =>
          have hc : wA.cell? ⟨cb, 5, none⟩ = some (.int .i64 p.1) := by have := hd.code; rw [hM] at this; exact this
          have hnz : p.1 ≠ 0 := hd.nz p hM
          have hnz2 : (p.1 == 0) = false := bn hnz
          have hnz3 : (p.1 != 0) = true := by simp [bne, hnz2]
          have vM := aa (BY.out.calm oO.out)
          clear hd hM ALL
          have hzW := vM.out.size
          go_wp2_with fail
          refine (qq _).mono ?_
          rintro e' v1 ⟨vb, rfl, gg, hb⟩
          have tC := aa (vM.out.calm hb)
          obtain ⟨gq, uq, rfl, hgq1, hgq2, fO⟩ : ∃ g us, vb = .slice (some ⟨g, 0, none⟩) 4 4 ∧ wA.heap.size ≤ g ∧ g < v1.heap.size ∧ Gw wA.heap.size (ct my) us (fun _ => wA.heap.size) (fun _ => g) 4 (.slice (some ⟨g, 0, none⟩) 4 4) v1 := vZ gg (by decide)
          have G1 := aa (fO.weak (show w.heap.size + 1 ≤ wA.heap.size by omega))
          exact bn0
      · have hl : mb (Nd.mk 1 0 ⟨#[]⟩ 6 Ts).size 600 = -1 := if_neg bS
        rw [hl]
        have HDL := aa (BY.out.calm bz.out)
        clear ALL
        have hzW := HDL.out.size
        go_wp2_with fail
        refine (qq _).mono ?_
        rintro e' v1 ⟨vb, rfl, gg, hb⟩
        have tC := aa (HDL.out.calm hb)
        obtain ⟨gq, uq, rfl, hgq1, hgq2, fO⟩ : ∃ g us, vb = .slice (some ⟨g, 0, none⟩) 4 4 ∧ wL.heap.size ≤ g ∧ g < v1.heap.size ∧ Gw wL.heap.size (ct my) us (fun _ => wL.heap.size) (fun _ => g) 4 (.slice (some ⟨g, 0, none⟩) 4 4) v1 := vZ gg (by decide)
        have G1 := aa (fO.weak (show w.heap.size + 1 ≤ wL.heap.size by omega))
        exact bn0
theorem qh : EXC 1 1 300 300 := EF 1 100 100 (by omega) (by omega) (by omega) (by omega) nw
theorem EH : EXC 1 2 700 700 := EF 2 300 300 (by omega) (by omega) (by omega) (by omega) qh
theorem So : EXC 2 1 300 300 := za 1 100 100 (by omega) (by omega) (by omega) (by omega) nw IB
theorem EG : EXC 2 2 700 700 := za 2 300 300 (by omega) (by omega) (by omega) (by omega) qh So
theorem st_0 : VG 0 1000 2000 3 := CO 0 0 0 0 0 0 0 1000 (by omega) (by omega) (by omega) (by omega) (by omega) (by omega) (by omega) (by omega) nw qh EH EG (fun h => absurd h (by omega)) (fun h => absurd h (by omega))
theorem Tz : JL 0 1041 2000 3 := tq 0 1000 2000 3 (by omega) (by omega) (by omega) (by omega) st_0
theorem sl_1 : SLC 1 7449 13000 6 := rz 1 1041 2000 3 (by omega) (by omega) (by omega) (by omega) qh Tz
theorem st_1 : VG 1 7449 23000 12 := CO 1 1041 2000 3 7449 13000 6 7449 (by omega) (by omega) (by omega) (by omega) (by omega) (by omega) (by omega) (by omega) nw qh EH EG (fun _ => Tz) (fun _ => sl_1)
theorem Tx : JL 1 7490 23000 12 := tq 1 7449 23000 12 (by omega) (by omega) (by omega) (by omega) st_1
theorem sl_2 : SLC 2 46143 139000 15 := rz 2 7490 23000 12 (by omega) (by omega) (by omega) (by omega) qh Tx
theorem st_2 : VG 2 46143 233000 30 := CO 2 7490 23000 12 46143 139000 15 46143 (by omega) (by omega) (by omega) (by omega) (by omega) (by omega) (by omega) (by omega) nw qh EH EG (fun _ => Tx) (fun _ => sl_2)
theorem bd_2 : JL 2 46184 233000 30 := tq 2 46143 233000 30 (by omega) (by omega) (by omega) (by omega) st_2
end Go.Proofs.YteaocammohcgoaaGreatDoor
