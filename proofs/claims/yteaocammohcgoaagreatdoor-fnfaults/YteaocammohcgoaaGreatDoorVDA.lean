import Derived.Test.YteaocammohcgoaaGreatDoorVKdA
import Derived.StillTailTactics
set_option linter.unusedVariables false
set_option maxHeartbeats 16000000
set_option maxRecDepth 100000
namespace Go.Proofs.YteaocammohcgoaaGreatDoor
open Go.RowKit
variable {G : Prop}
theorem bU0 (h : G := by
 exact (((eB.out.setCell (p := ⟨w.heap.size, 0, none⟩) lr _).setCell (p := ⟨w.heap.size, 1, none⟩) lr _).setCell (p := ⟨w.heap.size, 2, none⟩) lr _).setCell (p := ⟨w.heap.size, 3, none⟩) lr _) : G := h
theorem bU1 (h : G := by
 go_wp2
 go_region
 all_goals go_wp2
 all_goals exact ⟨⟨_, m + 1, by omega, rfl, by go_num, FV.out.drew⟩, by simp [intOf]; omega⟩) : G := h
theorem bU2 (h : G := by
 exact ⟨by rw [hc]; rfl, by rw [hc]; rfl, by rw [hc]; rfl, by rw [hc]; rfl, fun o => frozen_of_row _ _ _ _ _ hb⟩) : G := h
theorem bU3 (h : G := by
 go_wp2_with (go_at_call 31; refine (HN.out _ (HB.out _)).mono ?_; rintro e w1 ⟨rfl, hb1⟩; obtain ⟨eM, qN⟩ := Oh hb1; have eT := hb1.size; simp only [World.size_alloc] at eT; have eB := aa ((HB.out _).trans (hb1.mono (by simp))); clear hb1)
 first
 |clear k_U3_0
  refine bodyPost_ret (v := .agg #[.int .i64 k, .int .i64 0, .string s, .slice a l c]) (by simp [results, Tryz.results36, go_sem, eM]) rfl ⟨rfl, ?_⟩
  exact bU0
 |clear k_U3_1
  refine bodyPost_ret (v := .agg #[.int .i64 25, .int .i64 0, .string s, .slice a l c]) (by simp [results, Tryz.results55, go_sem, eM]) rfl ⟨rfl, ?_⟩
  exact bU0
 |clear k_U3_2
  refine bodyPost_ret (v := .agg #[.int .i64 22, .int .i64 n, .string ⟨#[]⟩, .slice none 0 0]) (by simp [results, Tryz.results37, go_sem, eM]) rfl ⟨rfl, ?_⟩
  exact bU0
 |clear k_U3_3
  refine bodyPost_ret (v := .agg #[.int .i64 3, .int .i64 n, .string s, .slice none 0 0]) (by simp [results, Tryz.results61, go_sem, eM]) rfl ⟨rfl, ?_⟩
  exact bU0) : G := h
def Bytes (sb : Nat) (w : World) (ca : Option Addr) (cn : Nat) : Prop :=
 cn = 0 ∨ ∃ g off, ca = some ⟨g, off, none⟩ ∧ g < sb ∧ ∀ i, i < cn → ∃ b : Nat, b < 256 ∧ w.cell? ⟨g, off + i, none⟩ = some (.int .u8 (b : Int))
structure SrcAt (sb : Nat) (ca : Option Addr) (cn cc at' Hx : Nat) (w : World) : Prop where
 blk : w.heap[sb]? = some (.cells #[.slice ca cn cc, .int .i64 (at' : Int), .int .i64 (Hx : Int)] 60 (0, 0))
 low : Hx < 2147483648
 few : cn ≤ 1048576
 row : Bytes sb w ca cn
def Src (sb A : Nat) (w : World) : Prop := ∃ ca cn cc at' Hx, SrcAt sb ca cn cc at' Hx w ∧ at' ≤ A
theorem Src.mono {sb A B : Nat} {w : World} (h : Src sb A w) (hAB : A ≤ B) : Src sb B w := by
 obtain ⟨ca, cn, cc, a, s, h, ha⟩ := h; exact ⟨ca, cn, cc, a, s, h, Nat.le_trans ha hAB⟩
abbrev Kp (sb : Nat) (w w' : World) : Prop := Kept (fun k => k = sb) w w'
theorem Bytes.keep {sb : Nat} {w w' : World} {ca : Option Addr} {cn : Nat} (h : Bytes sb w ca cn) (hs : sb ≤ w.heap.size) (hk : Kp sb w w') : Bytes sb w' ca cn := by
 rcases h with h | ⟨g, off, e, hg, h⟩
 ·exact .inl h
 ·refine .inr ⟨g, off, e, hg, fun i hi => ?_⟩
  obtain ⟨b, hb, hc⟩ := h i hi
  refine ⟨b, hb, ?_⟩
  rw [World.cell?_of_block (a := ⟨g, off + i, none⟩) (hk.block g (by omega) (by omega))]
  exact hc
theorem SrcAt.lt {sb : Nat} {ca : Option Addr} {cn cc a s : Nat} {w : World} (h : SrcAt sb ca cn cc a s w) : sb < w.heap.size := (Array.getElem?_eq_some_iff.1 h.blk).1
theorem Src.lt {sb A : Nat} {w : World} (h : Src sb A w) : sb < w.heap.size := by obtain ⟨_, _, _, _, _, h, _⟩ := h; exact h.lt
theorem Src.calm {sb A : Nat} {w w' : World} (h : Src sb A w) (hb : Below w.heap.size w w') : Src sb A w' := by
 obtain ⟨ca, cn, cc, a, s, h1, ha⟩ := h
 have hl := h1.lt
 exact ⟨ca, cn, cc, a, s, ⟨(hb.block _ hl).trans h1.blk, h1.low, h1.few, h1.row.keep (by omega) (bG hb _)⟩, ha⟩
theorem Src.alloc {sb A : Nat} {w : World} (h : Src sb A w) (o : Obj) : Src sb A (w.alloc o) := h.calm (bA)
theorem Src.drew {sb A : Nat} {w : World} (h : Src sb A w) : Src sb A w.drew := h.calm ⟨rfl, rfl, rfl, Nat.le_refl _, fun _ _ => rfl⟩
theorem SrcAt.cells {sb : Nat} {ca : Option Addr} {cn cc a s : Nat} {w : World} (h : SrcAt sb ca cn cc a s w) :
  w.cell? ⟨sb, 0, none⟩ = some (.slice ca cn cc) ∧ w.cell? ⟨sb, 1, none⟩ = some (.int .i64 (a : Int)) ∧ w.cell? ⟨sb, 2, none⟩ = some (.int .i64 (s : Int)) ∧ ∀ o, w.frozen? ⟨sb, o, none⟩ = false := by
 have hc : ∀ o, w.cell? ⟨sb, o, none⟩ = (#[Value.slice ca cn cc, .int .i64 (a : Int), .int .i64 (s : Int)])[o]? := fun o => cell_of_row _ _ _ _ _ (0, 0) h.blk
 exact ⟨by rw [hc]; rfl, by rw [hc]; rfl, by rw [hc]; rfl, fun o => frozen_of_row _ _ _ _ _ h.blk⟩
theorem SrcAt.put {sb : Nat} {ca : Option Addr} {cn cc a s : Nat} {w : World} (h : SrcAt sb ca cn cc a s w) (a' : Nat) : SrcAt sb ca cn cc a' s (w.setCell ⟨sb, 1, none⟩ (.int .i64 (a' : Int))) := by
 have hl := h.lt
 have := heap_setCell_same _ sb 1 _ 60 (.int .i64 (a' : Int)) h.blk
 exact ⟨this.trans (by rfl), h.low, h.few, h.row.keep (by omega) (Kept.setCell (S := fun k => k = sb) ⟨sb, 1, none⟩ _ rfl)⟩
theorem SrcAt.putS {sb : Nat} {ca : Option Addr} {cn cc a s : Nat} {w : World} (h : SrcAt sb ca cn cc a s w) (s' : Nat) (hs : s' < 2147483648) : SrcAt sb ca cn cc a s' (w.setCell ⟨sb, 2, none⟩ (.int .i64 (s' : Int))) := by
 have hl := h.lt
 have := heap_setCell_same _ sb 2 _ 60 (.int .i64 (s' : Int)) h.blk
 exact ⟨this.trans (by rfl), hs, h.few, h.row.keep (by omega) (Kept.setCell (S := fun k => k = sb) ⟨sb, 2, none⟩ _ rfl)⟩
theorem fq {x : Int} (h1 : -9223372036854775808 ≤ x) (h2 : x ≤ 9223372036854775807) : IntKind.i64.wrap x = x := by
 simp [IntKind.wrap, IntKind.bits, IntKind.signed]; omega
theorem SrcAt.drew {sb : Nat} {ca : Option Addr} {cn cc a s : Nat} {w : World} (h : SrcAt sb ca cn cc a s w) : SrcAt sb ca cn cc a s w.drew := ⟨h.blk, h.low, h.few, h.row⟩
theorem Kept.drewR {S : Nat → Prop} {w w' : World} (h : Kept S w w') : Kept S w w'.drew := ⟨h.os, h.tape, h.output, h.size, h.block⟩
theorem nD (sb A : Nat) (w : World) (hA : A ≤ 1099511627776) (h : Src sb A w) :
  Calls Tryz.prog 63 #[.pointer (some ⟨sb, 0, none⟩)] w fun e w' => ∃ b : Nat, b < 256 ∧ e = .returned (.int .i64 (b : Int)) ∧ Src sb (A + 1) w' ∧ Kp sb w w' := by
 obtain ⟨ca, cn, cc, a, s, h1, ha⟩ := h
 obtain ⟨c0, c1, c2, cf⟩ := h1.cells
 have mM := h1.low
 have dK := h1.few
 have bH := jK
 have HA := aa (h1.put (a + 1))
 have oq : Hid (Kp sb w (w.setCell ⟨sb, 1, none⟩ (.int .i64 ((a + 1 : Nat) : Int)))) := Kept.setCell (S := fun k => k = sb) ⟨sb, 1, none⟩ _ rfl
 have kA : ((a + 1 : Nat) : Int) = (a : Int) + 1 := by omega
 rw [kA] at HA oq
 clear h1 kA
 go_enter Tryz.func63, Tryz.ntmps63
 go_wp2
 generalize w.setCell ⟨sb, 1, none⟩ (.int .i64 ((a : Int) + 1)) = w1 at *
 clear c0 c1 c2 cf
 obtain ⟨c0, c1, c2, cf⟩ := HA.out.cells
 have kA : ((a + 1 : Nat) : Int) = (a : Int) + 1 := by omega
 rw [kA] at c1
 clear kA
 by_cases hin : a < cn
 ·have hin1 : ((a : Int) + 1) ≤ (cn : Int) := by omega
  have hin2 : (a : Int) < (cn : Int) := by omega
  obtain ⟨g, off, rfl, hg, bM⟩ : ∃ g off, ca = some ⟨g, off, none⟩ ∧ g < sb ∧ ∀ i, i < cn → ∃ b : Nat, b < 256 ∧ w1.cell? ⟨g, off + i, none⟩ = some (.int .u8 (b : Int)) := by
   rcases HA.out.row with h | h
   ·omega
   ·exact h
  obtain ⟨b, hb, hc⟩ := bM a hin
  have dE : ¬ g = sb := by omega
  have HE : Hid ((((s * 31 + b + 7) % 2147483648 : Nat) : Int) = ((s : Int) * 31 + (b : Int) + 7) % 2147483648) := by unfold Hid; omega
  have HA2 := aa HA.out.drew
  have rp := aa oq.out.drewR
  have iG : w1.drew.cell? ⟨g, off + a, none⟩ = some (.int .u8 (b : Int)) := hc
  clear bM
  go_region
  go_wp2
  clear hc c0 c1 c2 cf HA oq
  generalize w1.drew = w2 at *
  obtain ⟨c0, c1, c2, cf⟩ := HA2.out.cells
  have kA : ((a + 1 : Nat) : Int) = (a : Int) + 1 := by omega
  rw [kA] at c1
  clear kA
  have hsub : (a : Int) + 1 - 1 = (a : Int) := by omega
  have Kc : Hid ((((s * 31 + b + 7) % 2147483648 : Nat) : Int) = ((s : Int) * 31 + (b : Int) + 7) % 2147483648) := HE
  have e7 := aa (HA2.out.putS ((s * 31 + b + 7) % 2147483648) (Nat.mod_lt _ (by omega)))
  have PG : Hid (Kp sb w (w2.setCell ⟨sb, 2, none⟩ (.int .i64 (((s * 31 + b + 7) % 2147483648 : Nat) : Int)))) := rp.out.trans (Kept.setCell (S := fun k => k = sb) ⟨sb, 2, none⟩ _ rfl) (fun _ _ h => h)
  rw [Kc.out] at e7 PG
  clear HE Kc
  have wr1 : IntKind.i64.wrap (a : Int) = (a : Int) := fq (by omega) (by omega)
  have wr2 : IntKind.i64.wrap ((s : Int) * 31) = (s : Int) * 31 := fq (by omega) (by omega)
  have wr3 : IntKind.i64.wrap ((s : Int) * 31 + (b : Int)) = (s : Int) * 31 + (b : Int) := fq (by omega) (by omega)
  have wr4 : IntKind.i64.wrap ((s : Int) * 31 + (b : Int) + 7) = (s : Int) * 31 + (b : Int) + 7 := fq (by omega) (by omega)
  go_still_tail 21, bH
  go_wp2
  go_region
  all_goals go_wp2
  all_goals go_ret
  all_goals exact ⟨b, hb, rfl, ⟨_, cn, cc, a + 1, (s * 31 + b + 7) % 2147483648, e7.out.drew.drew, Nat.succ_le_succ ha⟩, PG.out.drewR.drewR⟩
 ·have hin1 : ¬ ((a : Int) + 1) ≤ (cn : Int) := by omega
  have HE : Hid ((((s * 1103515245 + 12345) % 2147483648 : Nat) : Int) = ((s : Int) * 1103515245 + 12345) % 2147483648) := by unfold Hid; omega
  have bR := aa (HA.out.putS ((s * 1103515245 + 12345) % 2147483648) (Nat.mod_lt _ (by omega)))
  have rp : Hid (Kp sb w (w1.setCell ⟨sb, 2, none⟩ (.int .i64 (((s * 1103515245 + 12345) % 2147483648 : Nat) : Int)))) := oq.out.trans (Kept.setCell (S := fun k => k = sb) ⟨sb, 2, none⟩ _ rfl) (fun _ _ h => h)
  rw [HE.out] at bR rp
  by_cases h3 : 3000 < a + 1
  ·have h3i : (3000 : Int) < (a : Int) + 1 := by omega
   go_region
   all_goals go_wp2
   all_goals go_ret
   all_goals exact ⟨0, by omega, rfl, ⟨ca, cn, cc, a + 1, s, HA.out.drew, Nat.succ_le_succ ha⟩, oq.out.drewR⟩
  ·have h3i : ¬ (3000 : Int) < (a : Int) + 1 := by omega
   have jM := aa (HA.out.drew.putS ((s * 1103515245 + 12345) % 2147483648) (Nat.mod_lt _ (by omega)))
   have gr : Hid (Kp sb w (w1.drew.setCell ⟨sb, 2, none⟩ (.int .i64 (((s * 1103515245 + 12345) % 2147483648 : Nat) : Int)))) := oq.out.drewR.trans (Kept.setCell (S := fun k => k = sb) ⟨sb, 2, none⟩ _ rfl) (fun _ _ h => h)
   rw [HE.out] at jM gr
   go_region
   all_goals go_wp2
   all_goals go_ret
   all_goals refine ⟨(s * 1103515245 + 12345) % 2147483648 / 65536 % 256, Nat.mod_lt _ (by omega), lQ (by simp), ⟨ca, cn, cc, a + 1, (s * 1103515245 + 12345) % 2147483648, ?_, Nat.succ_le_succ ha⟩, ?_⟩
   ·have h := HA.out.putS ((s * 1103515245 + 12345) % 2147483648) (Nat.mod_lt _ (by omega))
    rw [HE.out] at h
    exact h.drew
   ·exact (show Kp sb w (w1.setCell ⟨sb, 2, none⟩ (.int .i64 (((s : Int) * 1103515245 + 12345) % 2147483648))) from oq.out.trans (Kept.setCell (S := fun k => k = sb) ⟨sb, 2, none⟩ _ rfl) (fun _ _ h => h)).drewR
theorem cK (sb A n : Nat) (w : World) (hA : A + 3 ≤ 1099511627776) (hn : n ≤ 1099511627776) (h : Src sb A w) :
  Calls Tryz.prog 34 #[.pointer (some ⟨sb, 0, none⟩), .int .i64 (n : Int)] w fun e w' => ∃ r : Nat, (r = 0 ∨ r < n) ∧ e = .returned (.int .i64 (r : Int)) ∧ Src sb (A + 3) w' ∧ Kp sb w w' := by
 have HS := aa h
 clear h
 by_cases h1 : n ≤ 1
 ·have h1i : (n : Int) ≤ 1 := by omega
  go_enter Tryz.func34, Tryz.ntmps34
  go_wp2
  go_ret
  exact ⟨0, .inl rfl, rfl, HS.out.mono (by omega), Kept.refl _ _⟩
 ·have h1i : ¬ (n : Int) ≤ 1 := by omega
  by_cases h2 : n ≤ 256
  ·have h2i : (n : Int) ≤ 256 := by omega
   go_enter Tryz.func34, Tryz.ntmps34
   go_wp2_with (go_at_call 63; refine (nD sb A _ (by omega) HS.out).mono ?_; rintro e w1 ⟨b, hb, rfl, aD, jE⟩; have bh := aa aD; have oq := aa jE; clear aD jE)
   go_ret
   exact ⟨b % n, .inr (Nat.mod_lt _ (by omega)), lQ (by simp), bh.out.mono (by omega), oq.out⟩
  ·have h2i : ¬ (n : Int) ≤ 256 := by omega
   have P1 : Hid True := trivial
   have P2 : Hid True := trivial
   go_enter Tryz.func34, Tryz.ntmps34
   go_wp2_with (first
    |(go_at_call 63; clear P1; refine (nD sb A _ (by omega) HS.out).mono ?_; rintro e w1 ⟨b, hb, rfl, aD, jE⟩; have bh := aa aD; have oq := aa jE; clear aD jE)
    |(go_at_call 63; clear P2; refine (nD sb (A + 1) _ (by omega) bh.out).mono ?_; rintro e w2 ⟨b2, ba, rfl, aC, jL⟩; have bR := aa aC; have rp := aa jL; clear aC jL)
    |(go_at_call 63; refine (nD sb (A + 1 + 1) _ (by omega) bR.out).mono ?_; rintro e w3 ⟨b3, cZ, rfl, bY, qL⟩; have e7 := aa bY; have PG := aa qL; clear bY qL))
   go_ret
   exact ⟨(b * 65536 + b2 * 256 + b3) % n, .inr (Nat.mod_lt _ (by omega)), lQ (by simp), e7.out.mono (by omega), (oq.out.trans rp.out (fun _ _ h => h)).trans PG.out (fun _ _ h => h)⟩
theorem ks (sb A n : Nat) (w : World) (hA : A + 3 ≤ 1099511627776) (hn : n ≤ 1099511627776) (h : Src sb A w) :
  Calls Tryz.prog 53 #[.pointer (some ⟨sb, 0, none⟩), .int .i64 (n : Int)] w fun e w' => ∃ t : Bool, e = .returned (.bool t) ∧ Src sb (A + 3) w' ∧ Kp sb w w' := by
 have HN := aa (cK sb A n w hA hn h)
 clear h
 go_enter Tryz.func53, Tryz.ntmps53
 go_wp2_with (go_at_call 34; refine HN.out.mono ?_; rintro e w1 ⟨r, hr, rfl, aD, jE⟩; have bh := aa aD; have oq := aa jE; clear aD jE)
 all_goals go_ret
 all_goals exact ⟨_, rfl, bh.out, oq.out⟩
theorem Dq (sb A : Nat) (w : World) (h : Src sb A w) :
  Calls Tryz.prog 35 #[.pointer (some ⟨sb, 0, none⟩), .int .i64 5] w fun e w' => ∃ r : Nat, (1 ≤ r ∧ r ≤ 5) ∧ e = .returned (.int .i64 (r : Int)) ∧ w' = w := by
 obtain ⟨ca, cn, cc, a, s, h1, ha⟩ := h
 obtain ⟨c0, c1, c2, cf⟩ := h1.cells
 have dK := h1.few
 clear h1 c1 c2 cf
 go_enter Tryz.func35, Tryz.ntmps35
 go_wp2
 all_goals go_ret
 all_goals refine ⟨min (1 + cn / 12) 5, by omega, lQ (by omega), rfl⟩
theorem ij (P : ByteArray → Prop) (sb A g off n c : Nat) (w : World) (hn : 0 < n) (rT : n ≤ 256) (hA : A + 3 ≤ 1099511627776) (hg : g ≠ sb) (h : Src sb A w)
  (hc : ∀ i, i < n → ∃ s, P s ∧ w.cell? ⟨g, off + i, none⟩ = some (.string s)) :
  Calls Tryz.prog 54 #[.pointer (some ⟨sb, 0, none⟩), .slice (some ⟨g, off, none⟩) n c] w fun e w' => ∃ s, P s ∧ e = .returned (.string s) ∧ Src sb (A + 3) w' ∧ Kp sb w w' := by
 have HN := aa (cK sb A n w hA (by omega) h)
 have HC := aa hc
 have Nn : ¬ (n : Int) = 0 := by omega
 have rU : ¬ n = 0 := by omega
 clear h hc
 go_enter Tryz.func54, Tryz.ntmps54
 go_wp2_with (go_at_call 34; refine HN.out.mono ?_; rintro e w1 ⟨r, hr, rfl, aD, jE⟩; have jJ : r < n := (by omega); have hri : (r : Int) < (n : Int) := (by omega); obtain ⟨t, hP, ht⟩ := HC.out r jJ; have bN : g < w.heap.size := (by rcases Nat.lt_or_ge g w.heap.size with h | h; exact h; simp [World.cell?, Array.getElem?_eq_none h] at ht); have q : w1.cell? ⟨g, off + r, none⟩ = some (.string t) := (World.cell?_of_block (a := ⟨g, off + r, none⟩) (jE.block g bN hg)).trans ht; have bh := aa aD; have oq := aa jE; have HP := aa hP; clear aD jE ht hP)
 go_ret
 exact ⟨t, HP.out, rfl, bh.out, oq.out⟩
theorem bU (k n : Int) (s : ByteArray) (a : Option Addr) (l c : Nat) (w : World) : Calls Tryz.prog 31 #[.int .i64 k, .int .i64 n, .string s, .slice a l c] w fun e w' => e = .returned (.agg #[.int .i64 k, .int .i64 n, .string s, .slice a l c]) ∧ Below w.heap.size w w' := by
 go_enter Tryz.func31, Tryz.ntmps31
 go_wp2
 refine bodyPost_ret (v := .agg #[.int .i64 k, .int .i64 n, .string s, .slice a l c]) (by simp [results, Tryz.results31, go_sem]) rfl ⟨rfl, ?_⟩
 exact bA
theorem Oh {W w1 : World} (hb : Below W.heap.size W w1) : (∀ b o, b < W.heap.size → w1.cell? ⟨b, o, none⟩ = W.cell? ⟨b, o, none⟩) ∧ (∀ b o, b < W.heap.size → w1.frozen? ⟨b, o, none⟩ = W.frozen? ⟨b, o, none⟩) :=
 ⟨fun b o h => hb.cell (p := ⟨b, o, none⟩) h, fun b o h => hb.frozen (p := ⟨b, o, none⟩) h⟩
theorem aQ (k : Int) (s : ByteArray) (a : Option Addr) (l c : Nat) (w : World) : Calls Tryz.prog 36 #[.int .i64 k, .string s, .slice a l c] w fun e w' => e = .returned (.agg #[.int .i64 k, .int .i64 0, .string s, .slice a l c]) ∧ Below w.heap.size w w' := by
 have HN := aa (fun (W : World) (_ : Below w.heap.size w W) => bU k 0 s a l c W)
 have HB := aa (fun o : Obj => bO w o)
 go_enter Tryz.func36, Tryz.ntmps36
 have k_U3_0 := kk
 exact bU3
theorem jd (s : ByteArray) (a : Option Addr) (l c : Nat) (w : World) : Calls Tryz.prog 55 #[.string s, .slice a l c] w fun e w' => e = .returned (.agg #[.int .i64 25, .int .i64 0, .string s, .slice a l c]) ∧ Below w.heap.size w w' := by
 have HN := aa (fun (W : World) (_ : Below w.heap.size w W) => bU 25 0 s a l c W)
 have HB := aa (fun o : Obj => bO w o)
 go_enter Tryz.func55, Tryz.ntmps55
 have k_U3_1 := kk
 exact bU3
theorem fE (n : Int) (w : World) : Calls Tryz.prog 37 #[.int .i64 n] w fun e w' => e = .returned (.agg #[.int .i64 22, .int .i64 n, .string ⟨#[]⟩, .slice none 0 0]) ∧ Below w.heap.size w w' := by
 have HN := aa (fun (W : World) (_ : Below w.heap.size w W) => bU 22 n ⟨#[]⟩ none 0 0 W)
 have HB := aa (fun o : Obj => bO w o)
 go_enter Tryz.func37, Tryz.ntmps37
 have k_U3_2 := kk
 exact bU3
theorem gY (s : ByteArray) (n : Int) (w : World) : Calls Tryz.prog 61 #[.string s, .int .i64 n] w fun e w' => e = .returned (.agg #[.int .i64 3, .int .i64 n, .string s, .slice none 0 0]) ∧ Below w.heap.size w w' := by
 have HN := aa (fun (W : World) (_ : Below w.heap.size w W) => bU 3 n s none 0 0 W)
 have HB := aa (fun o : Obj => bO w o)
 go_enter Tryz.func61, Tryz.ntmps61
 have k_U3_3 := kk
 exact bU3
def aq (k n : Int) (s : ByteArray) : Nd := .mk k n s 0 (fun _ => .nil)
theorem cO (lo hi : Nat) (w : World) (k n : Int) (s : ByteArray) : Row lo hi w (aq k n s) (.slice none 0 0) := ⟨none, 0, rfl, ⟨Nat.le_refl _, by omega⟩, .inl rfl⟩
theorem gA {lo hi : Nat} {w : World} {k n : Int} {s : ByteArray} {len g cap : Nat} {kids : Nat → Nd} (hg : lo ≤ g) (hh : g < hi) (hl : len ≤ cap) (hc : cap ≤ 9223372036854775807)
  (h : ∀ i, i < len → ∃ u, w.cell? ⟨g, i * 4, none⟩ = some (.int .i64 (kids i).kind) ∧ w.cell? ⟨g, i * 4 + 1, none⟩ = some (.int .i64 (kids i).num) ∧ w.cell? ⟨g, i * 4 + 2, none⟩ = some (.string (kids i).name) ∧ w.cell? ⟨g, i * 4 + 3, none⟩ = some u ∧ Row lo hi w (kids i) u) :
  Row lo hi w (.mk k n s len kids) (.slice (some ⟨g, 0, none⟩) len cap) := by
 refine ⟨_, cap, rfl, ⟨hl, hc⟩, .inr ⟨g, 0, rfl, hg, hh, fun i hi => ?_⟩⟩
 obtain ⟨u, e0, e1, e2, e3, hr⟩ := h i hi
 rw [Nat.zero_add]
 exact ⟨u, e0, e1, e2, e3, hr⟩
theorem fJ {sb lo hi : Nat} {w w' : World} {T : Nd} {v : Value} (h : Row lo hi w T v) (fy : sb < lo) (dF : hi ≤ w.heap.size) (hk : Kp sb w w') : Row lo hi w' T v :=
 dc lr lr (fun g o h1 h2 => World.cell?_of_block (a := ⟨g, o, none⟩) (hk.block g (by omega) (by omega))) h
def Scp (sb : Nat) (w : World) (v : Value) (n : Nat) : Prop :=
  ∃ a cap, v = .slice a n cap ∧ (n ≤ cap ∧ cap ≤ 9223372036854775807) ∧ n ≤ 1048576 ∧ (n = 0 ∨ ∃ g off, a = some ⟨g, off, none⟩ ∧ g ≠ sb ∧ g < w.heap.size ∧ ∀ i, i < n → ∃ (s : ByteArray) (t d : Int), aR s = true ∧
    w.cell? ⟨g, off + i * 3, none⟩ = some (.string s) ∧ w.cell? ⟨g, off + i * 3 + 1, none⟩ = some (.int .i64 t) ∧ w.cell? ⟨g, off + i * 3 + 2, none⟩ = some (.int .i64 d))
theorem Scp.keep {sb : Nat} {w w' : World} {v : Value} {n : Nat} (h : Scp sb w v n) (hk : Kp sb w w') : Scp sb w' v n := by
 obtain ⟨a, cap, rfl, hc, hn, hq⟩ := h
 refine ⟨a, cap, rfl, hc, hn, ?_⟩
 rcases hq with h | ⟨g, off, e, hg, hl, h⟩
 ·exact .inl h
 ·refine .inr ⟨g, off, e, hg, Nat.lt_of_lt_of_le hl hk.size, fun i hi => ?_⟩
  obtain ⟨s, t, d, h0, h1, h2, h3⟩ := h i hi
  have e' : ∀ o, w'.cell? ⟨g, o, none⟩ = w.cell? ⟨g, o, none⟩ := fun o => World.cell?_of_block (a := ⟨g, o, none⟩) (hk.block g hl hg)
  exact ⟨s, t, d, h0, (e' _).trans h1, (e' _).trans h2, (e' _).trans h3⟩
theorem lg (sb A n : Nat) (typ : Int) (v : Value) (w : World) (hA : A + 3 ≤ 1099511627776) (h : Src sb A w) (hs : Scp sb w v n) :
  Calls Tryz.prog 84 #[.pointer (some ⟨sb, 0, none⟩), v, .int .i64 typ] w fun e w' => ∃ (s : ByteArray) (t : Bool), (t = true → aR s = true) ∧ e = .returned (.tuple #[.string s, .bool t]) ∧ Src sb (A + 3) w' ∧ Kp sb w w' := by
 obtain ⟨a, cap, rfl, cr, hn6, Nc⟩ := id hs
 have FP := aa hs
 have HN := aa (cK sb A (n + 1) w hA (by omega) h)
 have rU : ((n + 1 : Nat) : Int) = (n : Int) + 1 := by omega
 rw [rU] at HN
 clear h hs Nc rU
 go_enter Tryz.func84, Tryz.ntmps84
 go_wp2_with (go_at_call 34; refine HN.out.mono ?_; rintro e w1 ⟨r, hr, rfl, aD, jE⟩; have jJ : r ≤ n := (by omega); have bh := aa aD; have oq := aa jE; have fT := aa (FP.out.keep jE); clear aD jE FP HN hr)
 go_loopw [9] (fun i wr => ∃ j : Nat, j ≤ n ∧ i = .int .i64 j ∧ Below w1.heap.size w1 wr) (fun i _ => n - (intOf i).toNat)
 case atStart => exact ⟨0, by omega, rfl, Below.refl _ _⟩
 case round =>
  obtain ⟨j, hj, rfl, hb⟩ := hrel
  by_cases bN : j < n
  ·have La : (j : Int) < (n : Int) := by omega
   obtain ⟨a', mQ, hv, _, _, hq⟩ := fT.out.keep (bG hb _)
   injection hv with vw Lq vu
   subst vw
   subst vu
   rcases hq with h0 | ⟨g, off, rfl, hg, iM, bM⟩
   ·omega
   obtain ⟨x, hx⟩ : ∃ x, x = (r + j) % n := ⟨_, rfl⟩
   have hxn : x < n := by rw [hx]; exact Nat.mod_lt _ (by omega)
   have hxi : (x : Int) < (n : Int) := by omega
   have hxe : ((r : Int) + (j : Int)) % (n : Int) = (x : Int) := by rw [hx]; simp
   obtain ⟨s, t, d, dn, e0, e1, e2⟩ := bM x hxn
   have PL := aa bM
   have Gr := aa dn
   have HB := aa hb
   have Nn : ¬ (n : Int) = 0 := by omega
   clear bM hx hb dn
   by_cases htt : t = typ
   ·subst htt
    rename World => wo
    have HV : Hid (∀ W, Below (wo.heap.size + 1) (wo.alloc (.cells #[.string s, .int .i64 t, .int .i64 d] 92)) W → W.cell? ⟨wo.heap.size, 0, none⟩ = some (.string s)) := by
     intro W h
     rw [h.cell (p := ⟨wo.heap.size, 0, none⟩) (by show wo.heap.size < wo.heap.size + 1; omega)]; simp [go_sem]
    go_wp2
    clear e0 e1 e2
    go_loopw [11, 12] (fun hd k wr => ∃ (b : Bool) (m : Nat), m ≤ n ∧ hd = .bool b ∧ k = .int .i64 m ∧ Below (wo.heap.size + 1) (wo.alloc (.cells #[.string s, .int .i64 t, .int .i64 d] 92)) wr) (fun _ k _ => n - (intOf k).toNat)
    case atStart => exact ⟨false, x + 1, by omega, rfl, by go_num, Below.refl _ _⟩
    case round =>
     obtain ⟨b, m, hm, rfl, rfl, r6⟩ := hrel
     have k0 := HV.out _ r6
     have FV := aa r6
     have oP := aa (HB.out.trans (((bO wo (.cells #[.string s, .int .i64 t, .int .i64 d] 92)).trans (r6.mono (Nat.le_succ _))).mono HB.out.size))
     by_cases hmt : m < n
     ·have hmi : (m : Int) < (n : Int) := by omega
      obtain ⟨s3, t3, d3, _, e0, _, _⟩ := PL.out m hmt
      have e0' : wr.cell? ⟨g, off + m * 3, none⟩ = some (.string s3) := by
       rw [((bO wo (.cells #[.string s, .int .i64 t, .int .i64 d] 92)).trans (r6.mono (Nat.le_succ _))).cell (p := ⟨g, off + m * 3, none⟩) iM]; exact e0
      clear e0 r6
      cases b
      ·exact bU1
      ·exact bU1
     ·clear r6
      cases b
      ·go_wp2
       refine bodyPost_ret (v := .tuple #[.string s, .bool true]) (by simp [results, Tryz.results84, go_sem]) rfl ⟨_, _, (fun _ => Gr.out), rfl, bh.out.calm oP.out, oq.out.trans (bG oP.out _) (fun _ _ h => h)⟩
      ·go_wp2
       exact ⟨⟨j + 1, by omega, by go_num, oP.out⟩, by simp [intOf]; omega⟩
   ·go_wp2
    exact ⟨⟨j + 1, by omega, by go_num, HB.out.alloc HB.out.size _⟩, by simp [intOf]; omega⟩
  ·go_wp2
   refine bodyPost_ret (v := .tuple #[.string ⟨#[]⟩, .bool false]) (by simp [results, Tryz.results84, go_sem]) rfl ⟨_, _, (fun h => by cases h), rfl, bh.out.calm hb, oq.out.trans (bG hb _) (fun _ _ h => h)⟩
def dL : Obj := .cells #[.int .i64 0, .int .i64 0, .string ⟨#[]⟩, .slice none 0 0] 25
structure DW (sb A : Nat) (w W : World) : Prop where
 src : Src sb A W
 kp : Kp sb (w.alloc dL) W
 low : sb < w.heap.size
theorem DW.start {sb A : Nat} {w : World} (h : Src sb A w) : DW sb A w (w.alloc dL) := ⟨h.alloc _, Kept.refl _ _, h.lt⟩
theorem DW.step {sb A B : Nat} {w W W' : World} (h : DW sb A w W) (hs : Src sb B W') (hk : Kp sb W W') : DW sb B w W' := ⟨hs, h.kp.trans hk (fun _ _ h => h), h.low⟩
theorem DW.calm {sb A : Nat} {w W W' : World} (h : DW sb A w W) (hb : Below W.heap.size W W') : DW sb A w W' := h.step (h.src.calm hb) (bG hb _)
theorem DW.alloc {sb A : Nat} {w W : World} (h : DW sb A w W) (o : Obj) : DW sb A w (W.alloc o) := h.calm (bA)
theorem DW.drew {sb A : Nat} {w W : World} (h : DW sb A w W) : DW sb A w W.drew := h.calm ⟨rfl, rfl, rfl, Nat.le_refl _, fun _ _ => rfl⟩
theorem DW.size {sb A : Nat} {w W : World} (h : DW sb A w W) : w.heap.size + 1 ≤ W.heap.size := by have := h.kp.size; simpa using this
theorem DW.blk {sb A : Nat} {w W : World} (h : DW sb A w W) : W.heap[w.heap.size]? = some dL := by
 have hl := h.low
 rw [h.kp.block w.heap.size (by simp) (by omega)]
 exact heap_alloc_new w _
theorem DW.cells {sb A : Nat} {w W : World} (h : DW sb A w W) : W.cell? ⟨w.heap.size, 0, none⟩ = some (.int .i64 0) ∧ W.cell? ⟨w.heap.size, 1, none⟩ = some (.int .i64 0) ∧ W.cell? ⟨w.heap.size, 2, none⟩ = some (.string ⟨#[]⟩) ∧ W.cell? ⟨w.heap.size, 3, none⟩ = some (.slice none 0 0) ∧ ∀ o, W.frozen? ⟨w.heap.size, o, none⟩ = false := by
 have hb := h.blk
 unfold dL at hb
 have hc : ∀ o, W.cell? ⟨w.heap.size, o, none⟩ = (#[Value.int .i64 0, .int .i64 0, .string ⟨#[]⟩, .slice none 0 0])[o]? := fun o => cell_of_row _ _ _ _ _ (0, 0) hb
 exact bU2
def fe (W : World) (b : Nat) (k n : Int) (s : ByteArray) (u : Value) : World := (((W.setCell ⟨b, 0, none⟩ (.int .i64 k)).setCell ⟨b, 1, none⟩ (.int .i64 n)).setCell ⟨b, 2, none⟩ (.string s)).setCell ⟨b, 3, none⟩ u
theorem eh (W : World) (b : Nat) (k n : Int) (s : ByteArray) (u : Value) (i : Nat) (h : i ≠ b) : (fe W b k n s u).heap[i]? = W.heap[i]? := by
 unfold fe
 rw [Below.heap_setCell _ _ _ _ (by show i ≠ b; exact h), Below.heap_setCell _ _ _ _ (by show i ≠ b; exact h), Below.heap_setCell _ _ _ _ (by show i ≠ b; exact h), Below.heap_setCell _ _ _ _ (by show i ≠ b; exact h)]
theorem fb (W : World) (b : Nat) (k n : Int) (s : ByteArray) (u : Value) : (fe W b k n s u).heap.size = W.heap.size := by simp [fe, World.setCell]
theorem pJ (W : World) (b : Nat) (k n : Int) (s : ByteArray) (u : Value) {z0 z1 z2 z3 : Value} (h0 : W.cell? ⟨b, 0, none⟩ = some z0) (h1 : W.cell? ⟨b, 1, none⟩ = some z1) (h2 : W.cell? ⟨b, 2, none⟩ = some z2) (h3 : W.cell? ⟨b, 3, none⟩ = some z3) :
  (fe W b k n s u).cell? ⟨b, 0, none⟩ = some (.int .i64 k) ∧ (fe W b k n s u).cell? ⟨b, 1, none⟩ = some (.int .i64 n) ∧ (fe W b k n s u).cell? ⟨b, 2, none⟩ = some (.string s) ∧ (fe W b k n s u).cell? ⟨b, 3, none⟩ = some u := by
 unfold fe
 have a1 : (W.setCell ⟨b, 0, none⟩ (.int .i64 k)).cell? ⟨b, 1, none⟩ = some z1 := by rw [bq _ _ _ _ h0, if_neg (by omega)]; exact h1
 have a2 : ((W.setCell ⟨b, 0, none⟩ (.int .i64 k)).setCell ⟨b, 1, none⟩ (.int .i64 n)).cell? ⟨b, 2, none⟩ = some z2 := by rw [bq _ _ _ _ a1, if_neg (by omega), bq _ _ _ _ h0, if_neg (by omega)]; exact h2
 have a3 : (((W.setCell ⟨b, 0, none⟩ (.int .i64 k)).setCell ⟨b, 1, none⟩ (.int .i64 n)).setCell ⟨b, 2, none⟩ (.string s)).cell? ⟨b, 3, none⟩ = some z3 := by rw [bq _ _ _ _ a2, if_neg (by omega), bq _ _ _ _ a1, if_neg (by omega), bq _ _ _ _ h0, if_neg (by omega)]; exact h3
 refine ⟨?_, ?_, ?_, ?_⟩
 ·rw [bq _ _ _ _ a3, if_neg (by omega), bq _ _ _ _ a2, if_neg (by omega), bq _ _ _ _ a1, if_neg (by omega), bq _ _ _ _ h0, if_pos ⟨rfl, rfl⟩]
 ·rw [bq _ _ _ _ a3, if_neg (by omega), bq _ _ _ _ a2, if_neg (by omega), bq _ _ _ _ a1, if_pos ⟨rfl, rfl⟩]
 ·rw [bq _ _ _ _ a3, if_neg (by omega), bq _ _ _ _ a2, if_pos ⟨rfl, rfl⟩]
 ·rw [bq _ _ _ _ a3, if_pos ⟨rfl, rfl⟩]
theorem Q6 (w : World) : (sizeOf 25).run Tryz.prog w = .ok 4 w := by kernel_rfl
theorem KI (b : Nat) (x0 x1 x2 x3 : Value) (W : World) (h0 : W.cell? ⟨b, 0, none⟩ = some x0) (h1 : W.cell? ⟨b, 1, none⟩ = some x1) (h2 : W.cell? ⟨b, 2, none⟩ = some x2) (h3 : W.cell? ⟨b, 3, none⟩ = some x3) : (loadVar 25 ⟨b, 0, none⟩).run Tryz.prog W = .ok (.agg #[x0, x1, x2, x3]) W := by
  have e := run_loadCells_list (P := Tryz.prog) W ⟨b, 0, none⟩ [x0, x1, x2, x3] (fun j v h => by
    match j, h with
    | 0, h => obtain rfl := Option.some.inj h; simpa [Addr.add] using h0
    | 1, h => obtain rfl := Option.some.inj h; simpa [Addr.add] using h1
    | 2, h => obtain rfl := Option.some.inj h; simpa [Addr.add] using h2
    | 3, h => obtain rfl := Option.some.inj h; simpa [Addr.add] using h3
    | j + 4, h => simp at h)
  have hs := Q6 W
  simp only [loadVar, isAgg, underlying, Sem.run_bind, Result.andThen]
  simp only [List.length_cons, List.length_nil, Nat.zero_add] at e
  simp [hs, Result.andThen, e]
theorem DW.read {sb A : Nat} {w W : World} (h : DW sb A w W) {fn : Func} {r : Nat} (uV : fn.results = #[.cell r 25]) {tmps : Array Value} (ht : tmps[r]?.getD undef = .pointer (some ⟨w.heap.size, 0, none⟩)) (k n : Int) (s : ByteArray) (u : Value) :
  (results fn tmps).run Tryz.prog (fe W w.heap.size k n s u) = .ok (.agg #[.int .i64 k, .int .i64 n, .string s, u]) (fe W w.heap.size k n s u) := by
 obtain ⟨f0, f1, f2, f3, _⟩ := h.cells
 obtain ⟨p0, p1, p2, p3⟩ := pJ W w.heap.size k n s u f0 f1 f2 f3
 have hl := KI w.heap.size _ _ _ _ _ p0 p1 p2 p3
 unfold results
 rw [uV]
 simp [asAddr, ht, hl]
structure Drawn (sb B : Nat) (P : Nd → Prop) (C : Nat) (w : World) (T : Nd) (u : Value) (w' : World) : Prop where
 row : Row w.heap.size w'.heap.size w' T u
 fine : T.Fine
 ok : P T
 cost : T.cost ≤ C
 src : Src sb B w'
 kp : Kp sb w w'
theorem Drawn.more {sb B B' C : Nat} {P : Nd → Prop} {w : World} {T : Nd} {u : Value} {w' : World} (h : Drawn sb B P C w T u w') (hB : B ≤ B') : Drawn sb B' P C w T u w' := ⟨h.row, h.fine, h.ok, h.cost, h.src.mono hB, h.kp⟩
theorem DW.fin {sb A C : Nat} {P : Nd → Prop} {w W : World} {T : Nd} {u : Value} (h : DW sb A w W) (hr : Row (w.heap.size + 1) W.heap.size W T u) (hf : T.Fine) (hp : P T) (hc : T.cost ≤ C) :
  Drawn sb A P C w T u (fe W w.heap.size T.kind T.num T.name u) := by
 have hl := h.low
 have hz := h.size
 have hs := fb W w.heap.size T.kind T.num T.name u
 have hb := fun i (e : i ≠ w.heap.size) => eh W w.heap.size T.kind T.num T.name u i e
 refine ⟨dc (Nat.le_succ _) (by omega) (fun g o h1 h2 => World.cell?_of_block (a := ⟨g, o, none⟩) (hb g (by omega))) hr, hf, hp, hc, ?_, ?_⟩
 ·obtain ⟨ca, cn, cc, a, s, h1, ha⟩ := h.src
  refine ⟨ca, cn, cc, a, s, ⟨(hb sb (by omega)).trans h1.blk, h1.low, h1.few, ?_⟩, ha⟩
  rcases h1.row with e | ⟨g, off, e, hg, hh⟩
  ·exact .inl e
  ·refine .inr ⟨g, off, e, hg, fun i hi => ?_⟩
   obtain ⟨b, hb1, ba⟩ := hh i hi
   exact ⟨b, hb1, (World.cell?_of_block (a := ⟨g, off + i, none⟩) (hb g (by omega))).trans ba⟩
 ·have jL := h.kp
  have eV := bO w dL
  refine ⟨(show (fe W w.heap.size T.kind T.num T.name u).os = W.os from rfl).trans (jL.os.trans eV.os), (show (fe W w.heap.size T.kind T.num T.name u).tape = W.tape from rfl).trans (jL.tape.trans eV.tape), (show (fe W w.heap.size T.kind T.num T.name u).output = W.output from rfl).trans (jL.output.trans eV.output), by omega, fun k nZ hn => ?_⟩
  rw [hb k (by omega), jL.block k (by simp; omega) hn]
  exact (bO w dL).block k nZ
theorem Bytes.wide {w W : World} {ca : Option Addr} {cn : Nat} (h : Bytes w.heap.size w ca cn) (hb : Below w.heap.size w W) : Bytes W.heap.size W ca cn := by
 rcases h with h | ⟨g, off, e, hg, h⟩
 ·exact .inl h
 ·refine .inr ⟨g, off, e, Nat.lt_of_lt_of_le hg hb.size, fun i hi => ?_⟩
  obtain ⟨b, hb1, hc⟩ := h i hi
  exact ⟨b, hb1, (hb.cell (p := ⟨g, off + i, none⟩) hg).trans hc⟩
theorem wS (ca : Option Addr) (cn cc : Nat) (w : World) (dK : cn ≤ 1048576) (dJ : Bytes w.heap.size w ca cn) :
  Calls Tryz.prog 18 #[.slice ca cn cc] w fun e w' => e = .returned (.pointer (some ⟨w.heap.size, 0, none⟩)) ∧ Src w.heap.size 0 w' ∧ Below w.heap.size w w' ∧ w'.heap.size = w.heap.size + 1 := by
 have HR := aa dJ
 have HE : Hid (((cn % 1000 : Nat) : Int) = (cn : Int) % 1000) := by unfold Hid; omega
 clear dJ
 go_enter Tryz.func18, Tryz.ntmps18
 go_wp2
 go_ret
 refine ⟨rfl, ⟨ca, cn, cc, 0, cn % 1000, ⟨?_, by omega, dK, ?_⟩, Nat.le_refl _⟩, bA, by simp⟩
 ·rw [heap_alloc_new, HE.out]; rfl
 ·exact HR.out.keep lr (bG (bO w _) _)
theorem pv {W : World} {b : Nat} (hb : W.heap[b]? = some dL) : W.cell? ⟨b, 0, none⟩ = some (.int .i64 0) ∧ W.cell? ⟨b, 1, none⟩ = some (.int .i64 0) ∧ W.cell? ⟨b, 2, none⟩ = some (.string ⟨#[]⟩) ∧ W.cell? ⟨b, 3, none⟩ = some (.slice none 0 0) ∧ ∀ o, W.frozen? ⟨b, o, none⟩ = false := by
 unfold dL at hb
 have hc : ∀ o, W.cell? ⟨b, o, none⟩ = (#[Value.int .i64 0, .int .i64 0, .string ⟨#[]⟩, .slice none 0 0])[o]? := fun o => cell_of_row _ _ _ _ _ (0, 0) hb
 exact bU2
theorem wU {W : World} {b : Nat} (hb : W.heap[b]? = some dL) {fn : Func} {r : Nat} (uV : fn.results = #[.cell r 25]) {tmps : Array Value} (ht : tmps[r]?.getD undef = .pointer (some ⟨b, 0, none⟩)) (k n : Int) (s : ByteArray) (u : Value) :
  (results fn tmps).run Tryz.prog (fe W b k n s u) = .ok (.agg #[.int .i64 k, .int .i64 n, .string s, u]) (fe W b k n s u) := by
 obtain ⟨f0, f1, f2, f3, _⟩ := pv hb
 obtain ⟨p0, p1, p2, p3⟩ := pJ W b k n s u f0 f1 f2 f3
 have hl := KI b _ _ _ _ _ p0 p1 p2 p3
 unfold results
 rw [uV]
 simp [asAddr, ht, hl]
theorem wW {w W : World} {b : Nat} (h : Below b w W) (k n : Int) (s : ByteArray) (u : Value) : Below b w (fe W b k n s u) :=
 (((h.setCell (p := ⟨b, 0, none⟩) lr _).setCell (p := ⟨b, 1, none⟩) lr _).setCell (p := ⟨b, 2, none⟩) lr _).setCell (p := ⟨b, 3, none⟩) lr _
end Go.Proofs.YteaocammohcgoaaGreatDoor
