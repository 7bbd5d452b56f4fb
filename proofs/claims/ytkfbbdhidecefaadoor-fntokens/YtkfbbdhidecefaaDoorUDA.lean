import Derived.Test.YtkfbbdhidecefaaDoorUKdA
import Derived.StillTailTactics
set_option linter.unusedVariables false
set_option maxHeartbeats 16000000
set_option maxRecDepth 100000
namespace Go.Proofs.YtkfbbdhidecefaaDoor
open Go.RowKit
variable {G : Prop}
theorem bC0 (h : G := by
 exact (((I7.out.setCell (p := ⟨w.heap.size, 0, none⟩) lr _).setCell (p := ⟨w.heap.size, 1, none⟩) lr _).setCell (p := ⟨w.heap.size, 2, none⟩) lr _).setCell (p := ⟨w.heap.size, 3, none⟩) lr _) : G := h
theorem bC1 (h : G := by
 go_wp2
 go_region
 all_goals go_wp2
 all_goals exact ⟨⟨_, m + 1, by omega, rfl, by go_num, IM.out.drew⟩, by simp [intOf]; omega⟩) : G := h
theorem bC2 (h : G := by
 exact ⟨by rw [hc]; rfl, by rw [hc]; rfl, by rw [hc]; rfl, by rw [hc]; rfl, fun o => frozen_of_row _ _ _ _ _ hb⟩) : G := h
theorem bC3 (h : G := by
 go_wp2_with (go_at_call 25; refine (HN.out _ (HB.out _)).mono ?_; rintro e w1 ⟨rfl, hb1⟩; obtain ⟨iQ, yj⟩ := OV hb1; have hZ := hb1.size; simp only [World.size_alloc] at hZ; have I7 := aa ((HB.out _).trans (hb1.mono (by simp))); clear hb1)
 first
 |clear k_C3_0
  refine bodyPost_ret (v := .agg #[.int .i64 k, .int .i64 0, .string s, .slice a l c]) (by simp [results, Tryd.results30, go_sem, iQ]) rfl ⟨rfl, ?_⟩
  exact bC0
 |clear k_C3_1
  refine bodyPost_ret (v := .agg #[.int .i64 25, .int .i64 0, .string s, .slice a l c]) (by simp [results, Tryd.results70, go_sem, iQ]) rfl ⟨rfl, ?_⟩
  exact bC0
 |clear k_C3_2
  refine bodyPost_ret (v := .agg #[.int .i64 22, .int .i64 n, .string ⟨#[]⟩, .slice none 0 0]) (by simp [results, Tryd.results31, go_sem, iQ]) rfl ⟨rfl, ?_⟩
  exact bC0
 |clear k_C3_3
  refine bodyPost_ret (v := .agg #[.int .i64 3, .int .i64 n, .string s, .slice none 0 0]) (by simp [results, Tryd.results46, go_sem, iQ]) rfl ⟨rfl, ?_⟩
  exact bC0) : G := h
def Bytes (sb : Nat) (w : World) (ca : Option Addr) (cn : Nat) : Prop :=
 cn = 0 ∨ ∃ g off, ca = some ⟨g, off, none⟩ ∧ g < sb ∧ ∀ i, i < cn → ∃ b : Nat, b < 256 ∧ w.cell? ⟨g, off + i, none⟩ = some (.int .u8 (b : Int))
structure SrcAt (sb : Nat) (ca : Option Addr) (cn cc at' J4 : Nat) (w : World) : Prop where
 blk : w.heap[sb]? = some (.cells #[.slice ca cn cc, .int .i64 (at' : Int), .int .i64 (J4 : Int)] 59 (0, 0))
 low : J4 < 2147483648
 few : cn ≤ 1048576
 row : Bytes sb w ca cn
def Src (sb A : Nat) (w : World) : Prop := ∃ ca cn cc at' J4, SrcAt sb ca cn cc at' J4 w ∧ at' ≤ A
theorem Src.mono {sb A B : Nat} {w : World} (h : Src sb A w) (hAB : A ≤ B) : Src sb B w := by
 obtain ⟨ca, cn, cc, a, s, h, ha⟩ := h; exact ⟨ca, cn, cc, a, s, h, Nat.le_trans ha hAB⟩
abbrev Kp (sb : Nat) (w w' : World) : Prop := Kept (fun k => k = sb) w w'
theorem Bytes.keep {sb : Nat} {w w' : World} {ca : Option Addr} {cn : Nat} (h : Bytes sb w ca cn) (hs : sb ≤ w.heap.size) (hk : Kp sb w w') : Bytes sb w' ca cn := by
 rcases h with h | ⟨g, off, e, hg, h⟩
 ·exact .inl h
 ·refine .inr ⟨g, off, e, hg, fun i hi => ?_⟩
  obtain ⟨b, hb, hc⟩ := h i hi
  refine ⟨b, hb, ?_⟩
  rw [World.cell?_of_block (a := ⟨g, off + i, none⟩) (hk.block g (by omega) (by omega))]
  exact hc
theorem SrcAt.lt {sb : Nat} {ca : Option Addr} {cn cc a s : Nat} {w : World} (h : SrcAt sb ca cn cc a s w) : sb < w.heap.size := (Array.getElem?_eq_some_iff.1 h.blk).1
theorem Src.lt {sb A : Nat} {w : World} (h : Src sb A w) : sb < w.heap.size := by obtain ⟨_, _, _, _, _, h, _⟩ := h; exact h.lt
theorem Src.calm {sb A : Nat} {w w' : World} (h : Src sb A w) (hb : Below w.heap.size w w') : Src sb A w' := by
 obtain ⟨ca, cn, cc, a, s, h1, ha⟩ := h
 have hl := h1.lt
 exact ⟨ca, cn, cc, a, s, ⟨(hb.block _ hl).trans h1.blk, h1.low, h1.few, h1.row.keep (by omega) (b7 hb _)⟩, ha⟩
theorem Src.alloc {sb A : Nat} {w : World} (h : Src sb A w) (o : Obj) : Src sb A (w.alloc o) := h.calm (bA)
theorem Src.drew {sb A : Nat} {w : World} (h : Src sb A w) : Src sb A w.drew := h.calm ⟨rfl, rfl, rfl, Nat.le_refl _, fun _ _ => rfl⟩
theorem SrcAt.cells {sb : Nat} {ca : Option Addr} {cn cc a s : Nat} {w : World} (h : SrcAt sb ca cn cc a s w) :
  w.cell? ⟨sb, 0, none⟩ = some (.slice ca cn cc) ∧ w.cell? ⟨sb, 1, none⟩ = some (.int .i64 (a : Int)) ∧ w.cell? ⟨sb, 2, none⟩ = some (.int .i64 (s : Int)) ∧ ∀ o, w.frozen? ⟨sb, o, none⟩ = false := by
 have hc : ∀ o, w.cell? ⟨sb, o, none⟩ = (#[Value.slice ca cn cc, .int .i64 (a : Int), .int .i64 (s : Int)])[o]? := fun o => cell_of_row _ _ _ _ _ (0, 0) h.blk
 exact ⟨by rw [hc]; rfl, by rw [hc]; rfl, by rw [hc]; rfl, fun o => frozen_of_row _ _ _ _ _ h.blk⟩
theorem SrcAt.put {sb : Nat} {ca : Option Addr} {cn cc a s : Nat} {w : World} (h : SrcAt sb ca cn cc a s w) (a' : Nat) : SrcAt sb ca cn cc a' s (w.setCell ⟨sb, 1, none⟩ (.int .i64 (a' : Int))) := by
 have hl := h.lt
 have := heap_setCell_same _ sb 1 _ 59 (.int .i64 (a' : Int)) h.blk
 exact ⟨this.trans (by rfl), h.low, h.few, h.row.keep (by omega) (Kept.setCell (S := fun k => k = sb) ⟨sb, 1, none⟩ _ rfl)⟩
theorem SrcAt.putS {sb : Nat} {ca : Option Addr} {cn cc a s : Nat} {w : World} (h : SrcAt sb ca cn cc a s w) (s' : Nat) (hs : s' < 2147483648) : SrcAt sb ca cn cc a s' (w.setCell ⟨sb, 2, none⟩ (.int .i64 (s' : Int))) := by
 have hl := h.lt
 have := heap_setCell_same _ sb 2 _ 59 (.int .i64 (s' : Int)) h.blk
 exact ⟨this.trans (by rfl), hs, h.few, h.row.keep (by omega) (Kept.setCell (S := fun k => k = sb) ⟨sb, 2, none⟩ _ rfl)⟩
theorem lu {x : Int} (h1 : -9223372036854775808 ≤ x) (h2 : x ≤ 9223372036854775807) : IntKind.i64.wrap x = x := by
 simp [IntKind.wrap, IntKind.bits, IntKind.signed]; omega
theorem SrcAt.drew {sb : Nat} {ca : Option Addr} {cn cc a s : Nat} {w : World} (h : SrcAt sb ca cn cc a s w) : SrcAt sb ca cn cc a s w.drew := ⟨h.blk, h.low, h.few, h.row⟩
theorem Kept.drewR {S : Nat → Prop} {w w' : World} (h : Kept S w w') : Kept S w w'.drew := ⟨h.os, h.tape, h.output, h.size, h.block⟩
theorem rW (sb A : Nat) (w : World) (hA : A ≤ 1099511627776) (h : Src sb A w) :
  Calls Tryd.prog 48 #[.pointer (some ⟨sb, 0, none⟩)] w fun e w' => ∃ b : Nat, b < 256 ∧ e = .returned (.int .i64 (b : Int)) ∧ Src sb (A + 1) w' ∧ Kp sb w w' := by
 obtain ⟨ca, cn, cc, a, s, h1, ha⟩ := h
 obtain ⟨c0, c1, c2, cf⟩ := h1.cells
 have sJ := h1.low
 have ig := h1.few
 have fH := rJ
 have HA := aa (h1.put (a + 1))
 have yM : Hid (Kp sb w (w.setCell ⟨sb, 1, none⟩ (.int .i64 ((a + 1 : Nat) : Int)))) := Kept.setCell (S := fun k => k = sb) ⟨sb, 1, none⟩ _ rfl
 have qw : ((a + 1 : Nat) : Int) = (a : Int) + 1 := by omega
 rw [qw] at HA yM
 clear h1 qw
 go_enter Tryd.func48, Tryd.ntmps48
 go_wp2
 generalize w.setCell ⟨sb, 1, none⟩ (.int .i64 ((a : Int) + 1)) = w1 at *
 clear c0 c1 c2 cf
 obtain ⟨c0, c1, c2, cf⟩ := HA.out.cells
 have qw : ((a + 1 : Nat) : Int) = (a : Int) + 1 := by omega
 rw [qw] at c1
 clear qw
 by_cases hin : a < cn
 ·have hin1 : ((a : Int) + 1) ≤ (cn : Int) := by omega
  have hin2 : (a : Int) < (cn : Int) := by omega
  obtain ⟨g, off, rfl, hg, lR⟩ : ∃ g off, ca = some ⟨g, off, none⟩ ∧ g < sb ∧ ∀ i, i < cn → ∃ b : Nat, b < 256 ∧ w1.cell? ⟨g, off + i, none⟩ = some (.int .u8 (b : Int)) := by
   rcases HA.out.row with h | h
   ·omega
   ·exact h
  obtain ⟨b, hb, hc⟩ := lR a hin
  have fE : ¬ g = sb := by omega
  have HE : Hid ((((s * 31 + b + 7) % 2147483648 : Nat) : Int) = ((s : Int) * 31 + (b : Int) + 7) % 2147483648) := by unfold Hid; omega
  have HA2 := aa HA.out.drew
  have LA := aa yM.out.drewR
  have oC : w1.drew.cell? ⟨g, off + a, none⟩ = some (.int .u8 (b : Int)) := hc
  clear lR
  go_region
  go_wp2
  clear hc c0 c1 c2 cf HA yM
  generalize w1.drew = w2 at *
  obtain ⟨c0, c1, c2, cf⟩ := HA2.out.cells
  have qw : ((a + 1 : Nat) : Int) = (a : Int) + 1 := by omega
  rw [qw] at c1
  clear qw
  have hsub : (a : Int) + 1 - 1 = (a : Int) := by omega
  have LD : Hid ((((s * 31 + b + 7) % 2147483648 : Nat) : Int) = ((s : Int) * 31 + (b : Int) + 7) % 2147483648) := HE
  have lZ := aa (HA2.out.putS ((s * 31 + b + 7) % 2147483648) (Nat.mod_lt _ (by omega)))
  have HK3 : Hid (Kp sb w (w2.setCell ⟨sb, 2, none⟩ (.int .i64 (((s * 31 + b + 7) % 2147483648 : Nat) : Int)))) := LA.out.trans (Kept.setCell (S := fun k => k = sb) ⟨sb, 2, none⟩ _ rfl) (fun _ _ h => h)
  rw [LD.out] at lZ HK3
  clear HE LD
  have wr1 : IntKind.i64.wrap (a : Int) = (a : Int) := lu (by omega) (by omega)
  have wr2 : IntKind.i64.wrap ((s : Int) * 31) = (s : Int) * 31 := lu (by omega) (by omega)
  have wr3 : IntKind.i64.wrap ((s : Int) * 31 + (b : Int)) = (s : Int) * 31 + (b : Int) := lu (by omega) (by omega)
  have wr4 : IntKind.i64.wrap ((s : Int) * 31 + (b : Int) + 7) = (s : Int) * 31 + (b : Int) + 7 := lu (by omega) (by omega)
  go_still_tail 21, fH
  go_wp2
  go_region
  all_goals go_wp2
  all_goals go_ret
  all_goals exact ⟨b, hb, rfl, ⟨_, cn, cc, a + 1, (s * 31 + b + 7) % 2147483648, lZ.out.drew.drew, Nat.succ_le_succ ha⟩, HK3.out.drewR.drewR⟩
 ·have hin1 : ¬ ((a : Int) + 1) ≤ (cn : Int) := by omega
  have HE : Hid ((((s * 1103515245 + 12345) % 2147483648 : Nat) : Int) = ((s : Int) * 1103515245 + 12345) % 2147483648) := by unfold Hid; omega
  have lD := aa (HA.out.putS ((s * 1103515245 + 12345) % 2147483648) (Nat.mod_lt _ (by omega)))
  have LA : Hid (Kp sb w (w1.setCell ⟨sb, 2, none⟩ (.int .i64 (((s * 1103515245 + 12345) % 2147483648 : Nat) : Int)))) := yM.out.trans (Kept.setCell (S := fun k => k = sb) ⟨sb, 2, none⟩ _ rfl) (fun _ _ h => h)
  rw [HE.out] at lD LA
  by_cases h3 : 3000 < a + 1
  ·have h3i : (3000 : Int) < (a : Int) + 1 := by omega
   go_region
   all_goals go_wp2
   all_goals go_ret
   all_goals exact ⟨0, by omega, rfl, ⟨ca, cn, cc, a + 1, s, HA.out.drew, Nat.succ_le_succ ha⟩, yM.out.drewR⟩
  ·have h3i : ¬ (3000 : Int) < (a : Int) + 1 := by omega
   have o6 := aa (HA.out.drew.putS ((s * 1103515245 + 12345) % 2147483648) (Nat.mod_lt _ (by omega)))
   have mn : Hid (Kp sb w (w1.drew.setCell ⟨sb, 2, none⟩ (.int .i64 (((s * 1103515245 + 12345) % 2147483648 : Nat) : Int)))) := yM.out.drewR.trans (Kept.setCell (S := fun k => k = sb) ⟨sb, 2, none⟩ _ rfl) (fun _ _ h => h)
   rw [HE.out] at o6 mn
   go_region
   all_goals go_wp2
   all_goals go_ret
   all_goals refine ⟨(s * 1103515245 + 12345) % 2147483648 / 65536 % 256, Nat.mod_lt _ (by omega), nM (by simp), ⟨ca, cn, cc, a + 1, (s * 1103515245 + 12345) % 2147483648, ?_, Nat.succ_le_succ ha⟩, ?_⟩
   ·have h := HA.out.putS ((s * 1103515245 + 12345) % 2147483648) (Nat.mod_lt _ (by omega))
    rw [HE.out] at h
    exact h.drew
   ·exact (show Kp sb w (w1.setCell ⟨sb, 2, none⟩ (.int .i64 (((s : Int) * 1103515245 + 12345) % 2147483648))) from yM.out.trans (Kept.setCell (S := fun k => k = sb) ⟨sb, 2, none⟩ _ rfl) (fun _ _ h => h)).drewR
theorem gv (sb A n : Nat) (w : World) (hA : A + 3 ≤ 1099511627776) (hn : n ≤ 1099511627776) (h : Src sb A w) :
  Calls Tryd.prog 28 #[.pointer (some ⟨sb, 0, none⟩), .int .i64 (n : Int)] w fun e w' => ∃ r : Nat, (r = 0 ∨ r < n) ∧ e = .returned (.int .i64 (r : Int)) ∧ Src sb (A + 3) w' ∧ Kp sb w w' := by
 have HS := aa h
 clear h
 by_cases h1 : n ≤ 1
 ·have h1i : (n : Int) ≤ 1 := by omega
  go_enter Tryd.func28, Tryd.ntmps28
  go_wp2
  go_ret
  exact ⟨0, .inl rfl, rfl, HS.out.mono (by omega), Kept.refl _ _⟩
 ·have h1i : ¬ (n : Int) ≤ 1 := by omega
  by_cases h2 : n ≤ 256
  ·have h2i : (n : Int) ≤ 256 := by omega
   go_enter Tryd.func28, Tryd.ntmps28
   go_wp2_with (go_at_call 48; refine (rW sb A _ (by omega) HS.out).mono ?_; rintro e w1 ⟨b, hb, rfl, aY, mP⟩; have gh := aa aY; have yM := aa mP; clear aY mP)
   go_ret
   exact ⟨b % n, .inr (Nat.mod_lt _ (by omega)), nM (by simp), gh.out.mono (by omega), yM.out⟩
  ·have h2i : ¬ (n : Int) ≤ 256 := by omega
   have P1 : Hid True := trivial
   have P2 : Hid True := trivial
   go_enter Tryd.func28, Tryd.ntmps28
   go_wp2_with (first
    |(go_at_call 48; clear P1; refine (rW sb A _ (by omega) HS.out).mono ?_; rintro e w1 ⟨b, hb, rfl, aY, mP⟩; have gh := aa aY; have yM := aa mP; clear aY mP)
    |(go_at_call 48; clear P2; refine (rW sb (A + 1) _ (by omega) gh.out).mono ?_; rintro e w2 ⟨b2, hb2, rfl, bH, oT⟩; have lD := aa bH; have LA := aa oT; clear bH oT)
    |(go_at_call 48; refine (rW sb (A + 1 + 1) _ (by omega) lD.out).mono ?_; rintro e w3 ⟨b3, hb3, rfl, fX, vM⟩; have lZ := aa fX; have HK3 := aa vM; clear fX vM))
   go_ret
   exact ⟨(b * 65536 + b2 * 256 + b3) % n, .inr (Nat.mod_lt _ (by omega)), nM (by simp), lZ.out.mono (by omega), (yM.out.trans LA.out (fun _ _ h => h)).trans HK3.out (fun _ _ h => h)⟩
theorem ri (sb A n : Nat) (w : World) (hA : A + 3 ≤ 1099511627776) (hn : n ≤ 1099511627776) (h : Src sb A w) :
  Calls Tryd.prog 69 #[.pointer (some ⟨sb, 0, none⟩), .int .i64 (n : Int)] w fun e w' => ∃ t : Bool, e = .returned (.bool t) ∧ Src sb (A + 3) w' ∧ Kp sb w w' := by
 have HN := aa (gv sb A n w hA hn h)
 clear h
 go_enter Tryd.func69, Tryd.ntmps69
 go_wp2_with (go_at_call 28; refine HN.out.mono ?_; rintro e w1 ⟨r, hr, rfl, aY, mP⟩; have gh := aa aY; have yM := aa mP; clear aY mP)
 all_goals go_ret
 all_goals exact ⟨_, rfl, gh.out, yM.out⟩
theorem F1 (sb A : Nat) (w : World) (h : Src sb A w) :
  Calls Tryd.prog 29 #[.pointer (some ⟨sb, 0, none⟩), .int .i64 5] w fun e w' => ∃ r : Nat, (1 ≤ r ∧ r ≤ 5) ∧ e = .returned (.int .i64 (r : Int)) ∧ w' = w := by
 obtain ⟨ca, cn, cc, a, s, h1, ha⟩ := h
 obtain ⟨c0, c1, c2, cf⟩ := h1.cells
 have ig := h1.few
 clear h1 c1 c2 cf
 go_enter Tryd.func29, Tryd.ntmps29
 go_wp2
 all_goals go_ret
 all_goals refine ⟨min (1 + cn / 12) 5, by omega, nM (by omega), rfl⟩
theorem np (P : ByteArray → Prop) (sb A g off n c : Nat) (w : World) (hn : 0 < n) (Ax : n ≤ 256) (hA : A + 3 ≤ 1099511627776) (hg : g ≠ sb) (h : Src sb A w)
  (hc : ∀ i, i < n → ∃ s, P s ∧ w.cell? ⟨g, off + i, none⟩ = some (.string s)) :
  Calls Tryd.prog 67 #[.pointer (some ⟨sb, 0, none⟩), .slice (some ⟨g, off, none⟩) n c] w fun e w' => ∃ s, P s ∧ e = .returned (.string s) ∧ Src sb (A + 3) w' ∧ Kp sb w w' := by
 have HN := aa (gv sb A n w hA (by omega) h)
 have HC := aa hc
 have Ku : ¬ (n : Int) = 0 := by omega
 have zI : ¬ n = 0 := by omega
 clear h hc
 go_enter Tryd.func67, Tryd.ntmps67
 go_wp2_with (go_at_call 28; refine HN.out.mono ?_; rintro e w1 ⟨r, hr, rfl, aY, mP⟩; have zD : r < n := (by omega); have hri : (r : Int) < (n : Int) := (by omega); obtain ⟨t, hP, ht⟩ := HC.out r zD; have bm : g < w.heap.size := (by rcases Nat.lt_or_ge g w.heap.size with h | h; exact h; simp [World.cell?, Array.getElem?_eq_none h] at ht); have q : w1.cell? ⟨g, off + r, none⟩ = some (.string t) := (World.cell?_of_block (a := ⟨g, off + r, none⟩) (mP.block g bm hg)).trans ht; have gh := aa aY; have yM := aa mP; have HP := aa hP; clear aY mP ht hP)
 go_ret
 exact ⟨t, HP.out, rfl, gh.out, yM.out⟩
theorem bM (k n : Int) (s : ByteArray) (a : Option Addr) (l c : Nat) (w : World) : Calls Tryd.prog 25 #[.int .i64 k, .int .i64 n, .string s, .slice a l c] w fun e w' => e = .returned (.agg #[.int .i64 k, .int .i64 n, .string s, .slice a l c]) ∧ Below w.heap.size w w' := by
 go_enter Tryd.func25, Tryd.ntmps25
 go_wp2
 refine bodyPost_ret (v := .agg #[.int .i64 k, .int .i64 n, .string s, .slice a l c]) (by simp [results, Tryd.results25, go_sem]) rfl ⟨rfl, ?_⟩
 exact bA
theorem OV {W w1 : World} (hb : Below W.heap.size W w1) : (∀ b o, b < W.heap.size → w1.cell? ⟨b, o, none⟩ = W.cell? ⟨b, o, none⟩) ∧ (∀ b o, b < W.heap.size → w1.frozen? ⟨b, o, none⟩ = W.frozen? ⟨b, o, none⟩) :=
 ⟨fun b o h => hb.cell (p := ⟨b, o, none⟩) h, fun b o h => hb.frozen (p := ⟨b, o, none⟩) h⟩
theorem ay (k : Int) (s : ByteArray) (a : Option Addr) (l c : Nat) (w : World) : Calls Tryd.prog 30 #[.int .i64 k, .string s, .slice a l c] w fun e w' => e = .returned (.agg #[.int .i64 k, .int .i64 0, .string s, .slice a l c]) ∧ Below w.heap.size w w' := by
 have HN := aa (fun (W : World) (_ : Below w.heap.size w W) => bM k 0 s a l c W)
 have HB := aa (fun o : Obj => bO w o)
 go_enter Tryd.func30, Tryd.ntmps30
 have k_C3_0 := kk
 exact bC3
theorem pP (s : ByteArray) (a : Option Addr) (l c : Nat) (w : World) : Calls Tryd.prog 70 #[.string s, .slice a l c] w fun e w' => e = .returned (.agg #[.int .i64 25, .int .i64 0, .string s, .slice a l c]) ∧ Below w.heap.size w w' := by
 have HN := aa (fun (W : World) (_ : Below w.heap.size w W) => bM 25 0 s a l c W)
 have HB := aa (fun o : Obj => bO w o)
 go_enter Tryd.func70, Tryd.ntmps70
 have k_C3_1 := kk
 exact bC3
theorem nQ (n : Int) (w : World) : Calls Tryd.prog 31 #[.int .i64 n] w fun e w' => e = .returned (.agg #[.int .i64 22, .int .i64 n, .string ⟨#[]⟩, .slice none 0 0]) ∧ Below w.heap.size w w' := by
 have HN := aa (fun (W : World) (_ : Below w.heap.size w W) => bM 22 n ⟨#[]⟩ none 0 0 W)
 have HB := aa (fun o : Obj => bO w o)
 go_enter Tryd.func31, Tryd.ntmps31
 have k_C3_2 := kk
 exact bC3
theorem l9 (s : ByteArray) (n : Int) (w : World) : Calls Tryd.prog 46 #[.string s, .int .i64 n] w fun e w' => e = .returned (.agg #[.int .i64 3, .int .i64 n, .string s, .slice none 0 0]) ∧ Below w.heap.size w w' := by
 have HN := aa (fun (W : World) (_ : Below w.heap.size w W) => bM 3 n s none 0 0 W)
 have HB := aa (fun o : Obj => bO w o)
 go_enter Tryd.func46, Tryd.ntmps46
 have k_C3_3 := kk
 exact bC3
def al (k n : Int) (s : ByteArray) : Nd := .mk k n s 0 (fun _ => .nil)
theorem gD (lo hi : Nat) (w : World) (k n : Int) (s : ByteArray) : Row lo hi w (al k n s) (.slice none 0 0) := ⟨none, 0, rfl, ⟨Nat.le_refl _, by omega⟩, .inl rfl⟩
theorem my {lo hi : Nat} {w : World} {k n : Int} {s : ByteArray} {len g cap : Nat} {kids : Nat → Nd} (hg : lo ≤ g) (hh : g < hi) (hl : len ≤ cap) (hc : cap ≤ 9223372036854775807)
  (h : ∀ i, i < len → ∃ u, w.cell? ⟨g, i * 4, none⟩ = some (.int .i64 (kids i).kind) ∧ w.cell? ⟨g, i * 4 + 1, none⟩ = some (.int .i64 (kids i).num) ∧ w.cell? ⟨g, i * 4 + 2, none⟩ = some (.string (kids i).name) ∧ w.cell? ⟨g, i * 4 + 3, none⟩ = some u ∧ Row lo hi w (kids i) u) :
  Row lo hi w (.mk k n s len kids) (.slice (some ⟨g, 0, none⟩) len cap) := by
 refine ⟨_, cap, rfl, ⟨hl, hc⟩, .inr ⟨g, 0, rfl, hg, hh, fun i hi => ?_⟩⟩
 obtain ⟨u, e0, e1, e2, e3, hr⟩ := h i hi
 rw [Nat.zero_add]
 exact ⟨u, e0, e1, e2, e3, hr⟩
theorem l8 {sb lo hi : Nat} {w w' : World} {T : Nd} {v : Value} (h : Row lo hi w T v) (lh : sb < lo) (gW : hi ≤ w.heap.size) (hk : Kp sb w w') : Row lo hi w' T v :=
 gn lr lr (fun g o h1 h2 => World.cell?_of_block (a := ⟨g, o, none⟩) (hk.block g (by omega) (by omega))) h
def Scp (sb : Nat) (w : World) (v : Value) (n : Nat) : Prop :=
  ∃ a cap, v = .slice a n cap ∧ (n ≤ cap ∧ cap ≤ 9223372036854775807) ∧ n ≤ 1048576 ∧ (n = 0 ∨ ∃ g off, a = some ⟨g, off, none⟩ ∧ g ≠ sb ∧ g < w.heap.size ∧ ∀ i, i < n → ∃ (s : ByteArray) (t d : Int), ck s = true ∧
    w.cell? ⟨g, off + i * 3, none⟩ = some (.string s) ∧ w.cell? ⟨g, off + i * 3 + 1, none⟩ = some (.int .i64 t) ∧ w.cell? ⟨g, off + i * 3 + 2, none⟩ = some (.int .i64 d))
theorem Scp.keep {sb : Nat} {w w' : World} {v : Value} {n : Nat} (h : Scp sb w v n) (hk : Kp sb w w') : Scp sb w' v n := by
 obtain ⟨a, cap, rfl, hc, hn, hq⟩ := h
 refine ⟨a, cap, rfl, hc, hn, ?_⟩
 rcases hq with h | ⟨g, off, e, hg, hl, h⟩
 ·exact .inl h
 ·refine .inr ⟨g, off, e, hg, Nat.lt_of_lt_of_le hl hk.size, fun i hi => ?_⟩
  obtain ⟨s, t, d, h0, h1, h2, h3⟩ := h i hi
  have e' : ∀ o, w'.cell? ⟨g, o, none⟩ = w.cell? ⟨g, o, none⟩ := fun o => World.cell?_of_block (a := ⟨g, o, none⟩) (hk.block g hl hg)
  exact ⟨s, t, d, h0, (e' _).trans h1, (e' _).trans h2, (e' _).trans h3⟩
theorem pD (sb A n : Nat) (typ : Int) (v : Value) (w : World) (hA : A + 3 ≤ 1099511627776) (h : Src sb A w) (hs : Scp sb w v n) :
  Calls Tryd.prog 66 #[.pointer (some ⟨sb, 0, none⟩), v, .int .i64 typ] w fun e w' => ∃ (s : ByteArray) (t : Bool), (t = true → ck s = true) ∧ e = .returned (.tuple #[.string s, .bool t]) ∧ Src sb (A + 3) w' ∧ Kp sb w w' := by
 obtain ⟨a, cap, rfl, bQ, hn6, IY⟩ := id hs
 have Qn := aa hs
 have HN := aa (gv sb A (n + 1) w hA (by omega) h)
 have zI : ((n + 1 : Nat) : Int) = (n : Int) + 1 := by omega
 rw [zI] at HN
 clear h hs IY zI
 go_enter Tryd.func66, Tryd.ntmps66
 go_wp2_with (go_at_call 28; refine HN.out.mono ?_; rintro e w1 ⟨r, hr, rfl, aY, mP⟩; have zD : r ≤ n := (by omega); have gh := aa aY; have yM := aa mP; have mI := aa (Qn.out.keep mP); clear aY mP Qn HN hr)
 go_loopw [9] (fun i wr => ∃ j : Nat, j ≤ n ∧ i = .int .i64 j ∧ Below w1.heap.size w1 wr) (fun i _ => n - (intOf i).toNat)
 case atStart => exact ⟨0, by omega, rfl, Below.refl _ _⟩
 case round =>
  obtain ⟨j, hj, rfl, hb⟩ := hrel
  by_cases bm : j < n
  ·have hji : (j : Int) < (n : Int) := by omega
   obtain ⟨a', ph, hv, _, _, hq⟩ := mI.out.keep (b7 hb _)
   injection hv with K6 ev2 K5
   subst K6
   subst K5
   rcases hq with h0 | ⟨g, off, rfl, hg, tf, lR⟩
   ·omega
   obtain ⟨x, hx⟩ : ∃ x, x = (r + j) % n := ⟨_, rfl⟩
   have hxn : x < n := by rw [hx]; exact Nat.mod_lt _ (by omega)
   have hxi : (x : Int) < (n : Int) := by omega
   have hxe : ((r : Int) + (j : Int)) % (n : Int) = (x : Int) := by rw [hx]; simp
   obtain ⟨s, t, d, il, e0, e1, e2⟩ := lR x hxn
   have Wb := aa lR
   have M8 := aa il
   have HB := aa hb
   have Ku : ¬ (n : Int) = 0 := by omega
   clear lR hx hb il
   by_cases htt : t = typ
   ·subst htt
    rename World => wo
    have HV : Hid (∀ W, Below (wo.heap.size + 1) (wo.alloc (.cells #[.string s, .int .i64 t, .int .i64 d] 83)) W → W.cell? ⟨wo.heap.size, 0, none⟩ = some (.string s)) := by
     intro W h
     rw [h.cell (p := ⟨wo.heap.size, 0, none⟩) (by show wo.heap.size < wo.heap.size + 1; omega)]; simp [go_sem]
    go_wp2
    clear e0 e1 e2
    go_loopw [11, 12] (fun hd k wr => ∃ (b : Bool) (m : Nat), m ≤ n ∧ hd = .bool b ∧ k = .int .i64 m ∧ Below (wo.heap.size + 1) (wo.alloc (.cells #[.string s, .int .i64 t, .int .i64 d] 83)) wr) (fun _ k _ => n - (intOf k).toNat)
    case atStart => exact ⟨false, x + 1, by omega, rfl, by go_num, Below.refl _ _⟩
    case round =>
     obtain ⟨b, m, hm, rfl, rfl, Bs⟩ := hrel
     have k0 := HV.out _ Bs
     have IM := aa Bs
     have C7 := aa (HB.out.trans (((bO wo (.cells #[.string s, .int .i64 t, .int .i64 d] 83)).trans (Bs.mono (Nat.le_succ _))).mono HB.out.size))
     by_cases hmt : m < n
     ·have hmi : (m : Int) < (n : Int) := by omega
      obtain ⟨s3, t3, d3, _, e0, _, _⟩ := Wb.out m hmt
      have e0' : wr.cell? ⟨g, off + m * 3, none⟩ = some (.string s3) := by
       rw [((bO wo (.cells #[.string s, .int .i64 t, .int .i64 d] 83)).trans (Bs.mono (Nat.le_succ _))).cell (p := ⟨g, off + m * 3, none⟩) tf]; exact e0
      clear e0 Bs
      cases b
      ·exact bC1
      ·exact bC1
     ·clear Bs
      cases b
      ·go_wp2
       refine bodyPost_ret (v := .tuple #[.string s, .bool true]) (by simp [results, Tryd.results66, go_sem]) rfl ⟨_, _, (fun _ => M8.out), rfl, gh.out.calm C7.out, yM.out.trans (b7 C7.out _) (fun _ _ h => h)⟩
      ·go_wp2
       exact ⟨⟨j + 1, by omega, by go_num, C7.out⟩, by simp [intOf]; omega⟩
   ·go_wp2
    exact ⟨⟨j + 1, by omega, by go_num, HB.out.alloc HB.out.size _⟩, by simp [intOf]; omega⟩
  ·go_wp2
   refine bodyPost_ret (v := .tuple #[.string ⟨#[]⟩, .bool false]) (by simp [results, Tryd.results66, go_sem]) rfl ⟨_, _, (fun h => by cases h), rfl, gh.out.calm hb, yM.out.trans (b7 hb _) (fun _ _ h => h)⟩
def gZ : Obj := .cells #[.int .i64 0, .int .i64 0, .string ⟨#[]⟩, .slice none 0 0] 27
structure DW (sb A : Nat) (w W : World) : Prop where
 src : Src sb A W
 kp : Kp sb (w.alloc gZ) W
 low : sb < w.heap.size
theorem DW.start {sb A : Nat} {w : World} (h : Src sb A w) : DW sb A w (w.alloc gZ) := ⟨h.alloc _, Kept.refl _ _, h.lt⟩
theorem DW.step {sb A B : Nat} {w W W' : World} (h : DW sb A w W) (hs : Src sb B W') (hk : Kp sb W W') : DW sb B w W' := ⟨hs, h.kp.trans hk (fun _ _ h => h), h.low⟩
theorem DW.calm {sb A : Nat} {w W W' : World} (h : DW sb A w W) (hb : Below W.heap.size W W') : DW sb A w W' := h.step (h.src.calm hb) (b7 hb _)
theorem DW.alloc {sb A : Nat} {w W : World} (h : DW sb A w W) (o : Obj) : DW sb A w (W.alloc o) := h.calm (bA)
theorem DW.drew {sb A : Nat} {w W : World} (h : DW sb A w W) : DW sb A w W.drew := h.calm ⟨rfl, rfl, rfl, Nat.le_refl _, fun _ _ => rfl⟩
theorem DW.size {sb A : Nat} {w W : World} (h : DW sb A w W) : w.heap.size + 1 ≤ W.heap.size := by have := h.kp.size; simpa using this
theorem DW.blk {sb A : Nat} {w W : World} (h : DW sb A w W) : W.heap[w.heap.size]? = some gZ := by
 have hl := h.low
 rw [h.kp.block w.heap.size (by simp) (by omega)]
 exact heap_alloc_new w _
theorem DW.cells {sb A : Nat} {w W : World} (h : DW sb A w W) : W.cell? ⟨w.heap.size, 0, none⟩ = some (.int .i64 0) ∧ W.cell? ⟨w.heap.size, 1, none⟩ = some (.int .i64 0) ∧ W.cell? ⟨w.heap.size, 2, none⟩ = some (.string ⟨#[]⟩) ∧ W.cell? ⟨w.heap.size, 3, none⟩ = some (.slice none 0 0) ∧ ∀ o, W.frozen? ⟨w.heap.size, o, none⟩ = false := by
 have hb := h.blk
 unfold gZ at hb
 have hc : ∀ o, W.cell? ⟨w.heap.size, o, none⟩ = (#[Value.int .i64 0, .int .i64 0, .string ⟨#[]⟩, .slice none 0 0])[o]? := fun o => cell_of_row _ _ _ _ _ (0, 0) hb
 exact bC2
def iN (W : World) (b : Nat) (k n : Int) (s : ByteArray) (u : Value) : World := (((W.setCell ⟨b, 0, none⟩ (.int .i64 k)).setCell ⟨b, 1, none⟩ (.int .i64 n)).setCell ⟨b, 2, none⟩ (.string s)).setCell ⟨b, 3, none⟩ u
theorem iA (W : World) (b : Nat) (k n : Int) (s : ByteArray) (u : Value) (i : Nat) (h : i ≠ b) : (iN W b k n s u).heap[i]? = W.heap[i]? := by
 unfold iN
 rw [Below.heap_setCell _ _ _ _ (by show i ≠ b; exact h), Below.heap_setCell _ _ _ _ (by show i ≠ b; exact h), Below.heap_setCell _ _ _ _ (by show i ≠ b; exact h), Below.heap_setCell _ _ _ _ (by show i ≠ b; exact h)]
theorem lF (W : World) (b : Nat) (k n : Int) (s : ByteArray) (u : Value) : (iN W b k n s u).heap.size = W.heap.size := by simp [iN, World.setCell]
theorem uH (W : World) (b : Nat) (k n : Int) (s : ByteArray) (u : Value) {z0 z1 z2 z3 : Value} (h0 : W.cell? ⟨b, 0, none⟩ = some z0) (h1 : W.cell? ⟨b, 1, none⟩ = some z1) (h2 : W.cell? ⟨b, 2, none⟩ = some z2) (h3 : W.cell? ⟨b, 3, none⟩ = some z3) :
  (iN W b k n s u).cell? ⟨b, 0, none⟩ = some (.int .i64 k) ∧ (iN W b k n s u).cell? ⟨b, 1, none⟩ = some (.int .i64 n) ∧ (iN W b k n s u).cell? ⟨b, 2, none⟩ = some (.string s) ∧ (iN W b k n s u).cell? ⟨b, 3, none⟩ = some u := by
 unfold iN
 have a1 : (W.setCell ⟨b, 0, none⟩ (.int .i64 k)).cell? ⟨b, 1, none⟩ = some z1 := by rw [gu _ _ _ _ h0, if_neg (by omega)]; exact h1
 have a2 : ((W.setCell ⟨b, 0, none⟩ (.int .i64 k)).setCell ⟨b, 1, none⟩ (.int .i64 n)).cell? ⟨b, 2, none⟩ = some z2 := by rw [gu _ _ _ _ a1, if_neg (by omega), gu _ _ _ _ h0, if_neg (by omega)]; exact h2
 have a3 : (((W.setCell ⟨b, 0, none⟩ (.int .i64 k)).setCell ⟨b, 1, none⟩ (.int .i64 n)).setCell ⟨b, 2, none⟩ (.string s)).cell? ⟨b, 3, none⟩ = some z3 := by rw [gu _ _ _ _ a2, if_neg (by omega), gu _ _ _ _ a1, if_neg (by omega), gu _ _ _ _ h0, if_neg (by omega)]; exact h3
 refine ⟨?_, ?_, ?_, ?_⟩
 ·rw [gu _ _ _ _ a3, if_neg (by omega), gu _ _ _ _ a2, if_neg (by omega), gu _ _ _ _ a1, if_neg (by omega), gu _ _ _ _ h0, if_pos ⟨rfl, rfl⟩]
 ·rw [gu _ _ _ _ a3, if_neg (by omega), gu _ _ _ _ a2, if_neg (by omega), gu _ _ _ _ a1, if_pos ⟨rfl, rfl⟩]
 ·rw [gu _ _ _ _ a3, if_neg (by omega), gu _ _ _ _ a2, if_pos ⟨rfl, rfl⟩]
 ·rw [gu _ _ _ _ a3, if_pos ⟨rfl, rfl⟩]
theorem QY (w : World) : (sizeOf 27).run Tryd.prog w = .ok 4 w := by kernel_rfl
theorem L8 (b : Nat) (x0 x1 x2 x3 : Value) (W : World) (h0 : W.cell? ⟨b, 0, none⟩ = some x0) (h1 : W.cell? ⟨b, 1, none⟩ = some x1) (h2 : W.cell? ⟨b, 2, none⟩ = some x2) (h3 : W.cell? ⟨b, 3, none⟩ = some x3) : (loadVar 27 ⟨b, 0, none⟩).run Tryd.prog W = .ok (.agg #[x0, x1, x2, x3]) W := by
  have e := run_loadCells_list (P := Tryd.prog) W ⟨b, 0, none⟩ [x0, x1, x2, x3] (fun j v h => by
    match j, h with
    | 0, h => obtain rfl := Option.some.inj h; simpa [Addr.add] using h0
    | 1, h => obtain rfl := Option.some.inj h; simpa [Addr.add] using h1
    | 2, h => obtain rfl := Option.some.inj h; simpa [Addr.add] using h2
    | 3, h => obtain rfl := Option.some.inj h; simpa [Addr.add] using h3
    | j + 4, h => simp at h)
  have hs := QY W
  simp only [loadVar, isAgg, underlying, Sem.run_bind, Result.andThen]
  simp only [List.length_cons, List.length_nil, Nat.zero_add] at e
  simp [hs, Result.andThen, e]
theorem DW.read {sb A : Nat} {w W : World} (h : DW sb A w W) {fn : Func} {r : Nat} (GL : fn.results = #[.cell r 27]) {tmps : Array Value} (ht : tmps[r]?.getD undef = .pointer (some ⟨w.heap.size, 0, none⟩)) (k n : Int) (s : ByteArray) (u : Value) :
  (results fn tmps).run Tryd.prog (iN W w.heap.size k n s u) = .ok (.agg #[.int .i64 k, .int .i64 n, .string s, u]) (iN W w.heap.size k n s u) := by
 obtain ⟨f0, f1, f2, f3, _⟩ := h.cells
 obtain ⟨p0, p1, p2, p3⟩ := uH W w.heap.size k n s u f0 f1 f2 f3
 have hl := L8 w.heap.size _ _ _ _ _ p0 p1 p2 p3
 unfold results
 rw [GL]
 simp [asAddr, ht, hl]
structure Drawn (sb B : Nat) (P : Nd → Prop) (C : Nat) (w : World) (T : Nd) (u : Value) (w' : World) : Prop where
 row : Row w.heap.size w'.heap.size w' T u
 fine : T.Fine
 ok : P T
 cost : T.cost ≤ C
 src : Src sb B w'
 kp : Kp sb w w'
theorem Drawn.more {sb B B' C : Nat} {P : Nd → Prop} {w : World} {T : Nd} {u : Value} {w' : World} (h : Drawn sb B P C w T u w') (hB : B ≤ B') : Drawn sb B' P C w T u w' := ⟨h.row, h.fine, h.ok, h.cost, h.src.mono hB, h.kp⟩
theorem DW.fin {sb A C : Nat} {P : Nd → Prop} {w W : World} {T : Nd} {u : Value} (h : DW sb A w W) (hr : Row (w.heap.size + 1) W.heap.size W T u) (hf : T.Fine) (hp : P T) (hc : T.cost ≤ C) :
  Drawn sb A P C w T u (iN W w.heap.size T.kind T.num T.name u) := by
 have hl := h.low
 have hz := h.size
 have hs := lF W w.heap.size T.kind T.num T.name u
 have hb := fun i (e : i ≠ w.heap.size) => iA W w.heap.size T.kind T.num T.name u i e
 refine ⟨gn (Nat.le_succ _) (by omega) (fun g o h1 h2 => World.cell?_of_block (a := ⟨g, o, none⟩) (hb g (by omega))) hr, hf, hp, hc, ?_, ?_⟩
 ·obtain ⟨ca, cn, cc, a, s, h1, ha⟩ := h.src
  refine ⟨ca, cn, cc, a, s, ⟨(hb sb (by omega)).trans h1.blk, h1.low, h1.few, ?_⟩, ha⟩
  rcases h1.row with e | ⟨g, off, e, hg, hh⟩
  ·exact .inl e
  ·refine .inr ⟨g, off, e, hg, fun i hi => ?_⟩
   obtain ⟨b, hb1, hb2⟩ := hh i hi
   exact ⟨b, hb1, (World.cell?_of_block (a := ⟨g, off + i, none⟩) (hb g (by omega))).trans hb2⟩
 ·have oT := h.kp
  have hG := bO w gZ
  refine ⟨(show (iN W w.heap.size T.kind T.num T.name u).os = W.os from rfl).trans (oT.os.trans hG.os), (show (iN W w.heap.size T.kind T.num T.name u).tape = W.tape from rfl).trans (oT.tape.trans hG.tape), (show (iN W w.heap.size T.kind T.num T.name u).output = W.output from rfl).trans (oT.output.trans hG.output), by omega, fun k qW hn => ?_⟩
  rw [hb k (by omega), oT.block k (by simp; omega) hn]
  exact (bO w gZ).block k qW
theorem Bytes.wide {w W : World} {ca : Option Addr} {cn : Nat} (h : Bytes w.heap.size w ca cn) (hb : Below w.heap.size w W) : Bytes W.heap.size W ca cn := by
 rcases h with h | ⟨g, off, e, hg, h⟩
 ·exact .inl h
 ·refine .inr ⟨g, off, e, Nat.lt_of_lt_of_le hg hb.size, fun i hi => ?_⟩
  obtain ⟨b, hb1, hc⟩ := h i hi
  exact ⟨b, hb1, (hb.cell (p := ⟨g, off + i, none⟩) hg).trans hc⟩
theorem AT (ca : Option Addr) (cn cc : Nat) (w : World) (ig : cn ≤ 1048576) (iT : Bytes w.heap.size w ca cn) :
  Calls Tryd.prog 10 #[.slice ca cn cc] w fun e w' => e = .returned (.pointer (some ⟨w.heap.size, 0, none⟩)) ∧ Src w.heap.size 0 w' ∧ Below w.heap.size w w' ∧ w'.heap.size = w.heap.size + 1 := by
 have HR := aa iT
 have HE : Hid (((cn % 1000 : Nat) : Int) = (cn : Int) % 1000) := by unfold Hid; omega
 clear iT
 go_enter Tryd.func10, Tryd.ntmps10
 go_wp2
 go_ret
 refine ⟨rfl, ⟨ca, cn, cc, 0, cn % 1000, ⟨?_, by omega, ig, ?_⟩, Nat.le_refl _⟩, bA, by simp⟩
 ·rw [heap_alloc_new, HE.out]; rfl
 ·exact HR.out.keep lr (b7 (bO w _) _)
theorem tU {W : World} {b : Nat} (hb : W.heap[b]? = some gZ) : W.cell? ⟨b, 0, none⟩ = some (.int .i64 0) ∧ W.cell? ⟨b, 1, none⟩ = some (.int .i64 0) ∧ W.cell? ⟨b, 2, none⟩ = some (.string ⟨#[]⟩) ∧ W.cell? ⟨b, 3, none⟩ = some (.slice none 0 0) ∧ ∀ o, W.frozen? ⟨b, o, none⟩ = false := by
 unfold gZ at hb
 have hc : ∀ o, W.cell? ⟨b, o, none⟩ = (#[Value.int .i64 0, .int .i64 0, .string ⟨#[]⟩, .slice none 0 0])[o]? := fun o => cell_of_row _ _ _ _ _ (0, 0) hb
 exact bC2
theorem AX {W : World} {b : Nat} (hb : W.heap[b]? = some gZ) {fn : Func} {r : Nat} (GL : fn.results = #[.cell r 27]) {tmps : Array Value} (ht : tmps[r]?.getD undef = .pointer (some ⟨b, 0, none⟩)) (k n : Int) (s : ByteArray) (u : Value) :
  (results fn tmps).run Tryd.prog (iN W b k n s u) = .ok (.agg #[.int .i64 k, .int .i64 n, .string s, u]) (iN W b k n s u) := by
 obtain ⟨f0, f1, f2, f3, _⟩ := tU hb
 obtain ⟨p0, p1, p2, p3⟩ := uH W b k n s u f0 f1 f2 f3
 have hl := L8 b _ _ _ _ _ p0 p1 p2 p3
 unfold results
 rw [GL]
 simp [asAddr, ht, hl]
theorem AY {w W : World} {b : Nat} (h : Below b w W) (k n : Int) (s : ByteArray) (u : Value) : Below b w (iN W b k n s u) :=
 (((h.setCell (p := ⟨b, 0, none⟩) lr _).setCell (p := ⟨b, 1, none⟩) lr _).setCell (p := ⟨b, 2, none⟩) lr _).setCell (p := ⟨b, 3, none⟩) lr _
end Go.Proofs.YtkfbbdhidecefaaDoor
