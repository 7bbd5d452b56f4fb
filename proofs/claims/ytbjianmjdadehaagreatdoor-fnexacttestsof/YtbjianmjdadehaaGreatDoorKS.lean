/- Proved: for every tree of laws.Node, however deep and wide, and whatever it shares with itself, laws.FnExactTestsOf returns true, that is, impl.TestsOf answers as the specification's TestsOf, the names and the code; its answer shares no memory with its argument, and is not turned by a later call (the law itself asks nothing of a tree whose lengths of names and lists of kids add up to more than 1048576); it writes into no argument, and nothing that was in memory is changed; the package variables errors.errorType, impl.takenWords, impl.kidForms and impl.caseForms hold what their initialisers lay (the card ties them). -/
import Derived.Test.YtbjianmjdadehaaGreatDoorKaBase
import Derived.Test.YtbjianmjdadehaaGreatDoorKhB
import Derived.Test.YtbjianmjdadehaaGreatDoorKhA
import Derived.Test.YtbjianmjdadehaaGreatDoorKaMark
import Derived.Test.YtbjianmjdadehaaGreatDoorKiB
import Derived.Test.YtbjianmjdadehaaGreatDoorKSa
import Derived.Test.YtbjianmjdadehaaGreatDoorCards
import Derived.Test.YtbjianmjdadehaaGreatDoorTie
import Derived.Test.YtbjianmjdadehaaGreatDoorKhC
set_option linter.unusedVariables false
namespace Go.Proofs.YtbjianmjdadehaaGreatDoor
open Go.RowKit

theorem Mk.belowS {lo hi : Nat} {w w' : World} (h : Mk lo hi w w') {B : Nat} (hB : B ≤ lo) (hlo : lo ≤ w.heap.size) : Below B w w' := ⟨h.os, h.tape, h.output, h.size, fun k hk => h.out k (by omega) (.inl (by omega))⟩

set_option maxHeartbeats 8000000 in
set_option maxRecDepth 100000 in
theorem law_tests (T : Nd) (u : Value) (w : World) (hf : T.Fine) (hr : Row 0 w.heap.size w T u) (ht : Tabs w) (hg : ErrG w) :
    Calls Tryz.prog 5 #[T.val u] w fun e w' => e = .returned (.bool true) ∧ Below w.heap.size w w' := by
  have HF := hid_mk hf
  have HR := hid_mk hr
  have hsc := T.size_cost
  obtain ⟨au, cu, hu, _⟩ := row_eq.1 hr
  subst hu
  have HB1 : ∀ o : Obj, Hid (Below w.heap.size w (w.alloc o)) := fun o => (Below.refl _ _).alloc (Nat.le_refl _) _
  have SZ := hid_mk (sz_node T)
  have TO := hid_mk (to_nodeW T)
  have SP := hid_mk (fun (hc : T.cost ≤ 1048576) W v hi hhi hr => spec_tests T W v hi hf hhi hr hc)
  have IM := hid_mk (fun W v hr (hc : T.cost ≤ 1048576) (hb : Below w.heap.size w W) => impl_tests T W v hf hr hc (tabs_below ht hb) (hg.later hb))
  have EQ := hid_mk (eq_node T)
  unfold SzC at SZ
  unfold ToCW at TO
  unfold EqC at EQ
  unfold Nd.val at *
  clear hf hr ht hg
  by_cases hc : T.cost ≤ 1048576
  · have hl : left' T.cost 1048576 = ((1048576 - T.cost : Nat) : Int) := by unfold left'; rw [if_pos hc]
    have SP := hid_mk (SP.out hc)
    have hxl := tests_len T
    have MKN := hid_mk (fun lo hi W v h1 h2 h3 h4 => mark_node T lo hi W v h1 h2 h3 h4 (by omega))
    have hnl : T.len ≤ 9223372036854775807 := Nd.fine_len HF.out
    generalize codeC T = cd at *
    generalize testsT T = xs at *
    have hbb : (cd != cd) = false := by simp
    unfold Nd.val at MKN
    go_enter Tryz.func5, Tryz.ntmps5
    have F0 : Hid (Four (w.alloc (.cells #[.int .i64 T.kind, .int .i64 T.num, .string T.name, .slice au T.len cu] 24)) w.heap.size (.int .i64 T.kind) (.int .i64 T.num) (.string T.name) (.slice au T.len cu)) := Four.new w _ _ _ _ _
    go_wp2_with fail
    refine (SZ.out _ 1048576 w.heap.size _ HF.out (by simp) (row_below (HB1 _).out (Nat.le_refl _) HR.out) (by omega)).mono ?_
    rw [hl]
    rintro e w1 ⟨rfl, hb1⟩
    have hz1 := hb1.size
    simp only [World.size_alloc] at hz1
    have B1 := hid_mk ((HB1 _).out.trans (hb1.mono (by simp)))
    have F1 := hid_mk (F0.out.keep hb1 (by simp))
    obtain ⟨p0, p1, p2, p3⟩ := F1.out
    clear hb1 F0 hl
    go_wp2_with fail
    refine (TO.out _ _ w.heap.size HF.out (by omega) (row_below B1.out (Nat.le_refl _) HR.out) hc).mono ?_
    rintro e w2 ⟨u2, rfl, hr2, hb2, _⟩
    obtain ⟨a2, c2, rfl⟩ := row_shape hr2
    have hz2 := hb2.size
    have B2 := hid_mk (B1.out.trans (hb2.mono (by omega)))
    have F2 := hid_mk (F1.out.keep hb2 (by omega))
    clear p0 p1 p2 p3 F1 hb2
    go_wp2_with fail
    refine (SP.out _ _ w2.heap.size (Nat.le_refl _) (row_wide hr2 (Nat.zero_le _) (Nat.le_refl _))).mono ?_
    rintro e w3 ⟨sv, rfl, hs3, hb3⟩
    obtain ⟨sa, sc, rfl, _, _⟩ := own_shape hs3
    have hz3 := hb3.size
    have HS3 := hid_mk hs3
    have HSL : Hid (∀ k, (Value.slice sa xs.length sc).ownBlock = some k → k < w3.heap.size) := fun k hk => (hs3.lt k hk).2
    have B3 := hid_mk (B2.out.trans (hb3.mono (by omega)))
    have F3 := hid_mk (F2.out.keep hb3 (by omega))
    obtain ⟨p0, p1, p2, p3⟩ := F3.out
    clear F2 hb3 hr2 B1 B2 hs3
    go_wp2_with fail
    refine (TO.out _ _ w.heap.size HF.out (by omega) (row_below B3.out (Nat.le_refl _) HR.out) hc).mono ?_
    rintro e w4 ⟨u4, rfl, hr4, hb4, hw4⟩
    obtain ⟨a4, c4, rfl⟩ := row_shape hr4
    have hz4 := hb4.size
    have B4 := hid_mk (B3.out.trans (hb4.mono (by omega)))
    have F4 := hid_mk (F3.out.keep hb4 (by omega))
    have HR4 := hid_mk hr4
    have HW4 := hid_mk hw4
    have HS4 := hid_mk (own_late HS3.out hb4)
    clear p0 p1 p2 p3 F3 hb4 hr4 B3 hw4
    go_wp2_with fail
    have hbA : Below w4.heap.size w4 (w4.alloc (.cells #[.int .i64 T.kind, .int .i64 T.num, .string T.name, .slice a4 T.len c4] 30)) := (Below.refl _ _).alloc (Nat.le_refl _) _
    have G4 : Hid (Four (w4.alloc (.cells #[.int .i64 T.kind, .int .i64 T.num, .string T.name, .slice a4 T.len c4] 30)) w4.heap.size (.int .i64 T.kind) (.int .i64 T.num) (.string T.name) (.slice a4 T.len c4)) := Four.new w4 _ _ _ _ _
    refine (IM.out _ _ (row_wide (row_below hbA (Nat.le_refl _) HR4.out) (Nat.zero_le _) (by simp)) hc (B4.out.trans (hbA.mono (by omega)))).mono ?_
    rintro e w5 ⟨gv, rfl, hg5, hb5⟩
    obtain ⟨ga, gc, rfl, _, _⟩ := own_shape hg5
    have hz5 := hb5.size
    simp only [World.size_alloc] at hz5 hg5
    have hb45 := hbA.trans (hb5.mono (by simp))
    have B5 := hid_mk (B4.out.trans (hb45.mono (by omega)))
    have F5 := hid_mk (F4.out.keep hb45 (by omega))
    have G5 := hid_mk (G4.out.keep hb5 (by simp))
    have HR5 := hid_mk (row_below hb45 (Nat.le_refl _) HR4.out)
    have HS5 := hid_mk (own_late HS4.out hb45)
    have HG5 := hid_mk hg5
    have HW5 : Hid (∀ g o, w3.heap.size ≤ g → g < w4.heap.size → w5.frozen? ⟨g, o, none⟩ = false) := fun g o h1 h2 => (hb45.frozen (p := ⟨g, o, none⟩) h2).trans (HW4.out g o h1)
    obtain ⟨p0, p1, p2, p3⟩ := F5.out
    obtain ⟨g0, g1, g2, g3⟩ := G5.out
    clear F4 G4 hb5 hbA hb45 B4 HR4 SZ SP HS4 hg5 HW4
    go_wp2_with fail
    refine (eq_strs_any xs _ _ _ _ _ (by omega) HG5.out HS5.out).mono ?_
    rintro e w6 ⟨rfl, hb6⟩
    have hz6 := hb6.size
    have B6 := hid_mk (B5.out.trans (hb6.mono (by omega)))
    have F6 := hid_mk (F5.out.keep hb6 (by omega))
    have G6 := hid_mk (G5.out.keep hb6 (by omega))
    have HR6 := hid_mk (row_below hb6 (by omega) HR5.out)
    have HS6 := hid_mk (own_late HS5.out hb6)
    have HG6 := hid_mk (own_late HG5.out hb6)
    have HW6 : Hid (∀ g o, w3.heap.size ≤ g → g < w4.heap.size → w6.frozen? ⟨g, o, none⟩ = false) := fun g o h1 h2 => (hb6.frozen (p := ⟨g, o, none⟩) (by show g < w5.heap.size; omega)).trans (HW5.out g o h1 h2)
    clear p0 p1 p2 p3 g0 g1 g2 g3 F5 G5 HR5 HS5 HG5 HW5 B5 hb6
    obtain ⟨p0, p1, p2, p3⟩ := F6.out
    obtain ⟨g0, g1, g2, g3⟩ := G6.out
    go_wp2_with fail
    go_region_with (first | (go_at_call 8; refine (TO.out _ _ w.heap.size HF.out (by show w.heap.size ≤ w6.heap.size; omega) (row_below B6.out.drew (Nat.le_refl _) HR.out) hc).mono ?_; rintro e w7 ⟨u7, rfl, hr7, hb7, _⟩; obtain ⟨a7, c7, rfl⟩ := row_shape hr7; have hz7 : w6.heap.size ≤ w7.heap.size := hb7.size; obtain ⟨k0, k1, k2, k3⟩ := (show Four w6.drew w4.heap.size _ _ _ _ from G6.out).keep hb7 (by show w4.heap.size < w6.heap.size; omega); have HR7 := hid_mk (row_below hb7 (show w4.heap.size ≤ w6.heap.size by omega) (row_drew HR6.out)); have HN7 := hid_mk hr7; have H7 : Hid (Below w6.heap.size w6 w7) := ((Below.refl w6.heap.size w6).drew.trans hb7); clear hr7 hb7) | (go_at_call 10; refine (EQ.out _ _ _ HF.out (row_wide HR7.out (Nat.zero_le _) (show w4.heap.size ≤ w7.heap.size by omega)) (row_wide HN7.out (Nat.zero_le _) (Nat.le_refl _))).mono ?_; rintro e w8 ⟨rfl, hb8⟩; have H8 := hid_mk (H7.out.trans (hb8.mono hz7)); obtain ⟨m0, m1, m2, m3⟩ := G6.out.keep H8.out (by show w4.heap.size < w6.heap.size; omega); clear hb8))
    all_goals
      have hz8 := H8.out.size
      have B8 := hid_mk (B6.out.trans (H8.out.mono (by omega)))
      have F8 := hid_mk (F6.out.keep H8.out (by omega))
      have G8 := hid_mk (G6.out.keep H8.out (by omega))
      have HR8 := hid_mk (row_below H8.out (by omega) HR6.out)
      have HS8 := hid_mk (own_late HS6.out H8.out)
      have HG8 := hid_mk (own_late HG6.out H8.out)
      have HW8 : Hid (∀ g o, w3.heap.size ≤ g → g < w4.heap.size → w8.frozen? ⟨g, o, none⟩ = false) := fun g o h1 h2 => (H8.out.frozen (p := ⟨g, o, none⟩) (by show g < w6.heap.size; omega)).trans (HW6.out g o h1 h2)
      clear p0 p1 p2 p3 g0 g1 g2 g3 k0 k1 k2 k3 F6 G6 HR6 HS6 HG6 HW6 B6 H7 H8 HR7 HN7
      go_wp2_with fail
      refine (MKN.out w3.heap.size w4.heap.size _ _ (by omega) hnl HR8.out HW8.out).mono ?_
      rintro e w9 ⟨kk, rfl, hm9⟩
      have hkk : ¬ ((kk : Int) < 0) := by omega
      have hz9 := hm9.size
      have hb9 : Below w3.heap.size w8 w9 := hm9.belowS (Nat.le_refl _) (by omega)
      have B9 := hid_mk (B8.out.trans (hb9.mono (by omega)))
      have F9 := hid_mk (F8.out.keep hb9 (by omega))
      have HS9 := hid_mk (own_calm HS8.out fun k hk => hm9.out k (HS8.out.lt k hk).2 (.inl (HSL.out k hk)))
      have HG9 := hid_mk (own_calm HG8.out fun k hk => hm9.out k (HG8.out.lt k hk).2 (.inr (by have := (HG8.out.lt k hk).1; omega)))
      clear F8 G8 HR8 HS8 HG8 HW8 B8 hm9 hb9 MKN
      go_wp2_with fail
      refine (eq_strs_any xs _ _ _ _ _ (by omega) HG9.out HS9.out).mono ?_
      rintro e w10 ⟨rfl, hb10⟩
      have hz10 := hb10.size
      have B10 := hid_mk (B9.out.trans (hb10.mono (by omega)))
      have F10 := hid_mk (F9.out.keep hb10 (by omega))
      have HS10 := hid_mk (own_late HS9.out hb10)
      have HG10 := hid_mk (own_late HG9.out hb10)
      clear F9 HS9 HG9 B9 hb10
      go_wp2_with fail
      refine (mark_strs_any xs _ _ _ (by omega) (by omega) HG10.out).mono ?_
      rintro e w11 ⟨rfl, hm11, hb11⟩
      have hz11 := hb11.size
      have B11 := hid_mk (B10.out.trans (hb11.mono (by omega)))
      have F11 := hid_mk (F10.out.keep hb11 (by omega))
      have HS11 := hid_mk (own_calm HS10.out fun k hk => hb11.block k (by have := HSL.out k hk; omega))
      have HM11 := hid_mk hm11
      clear F10 HS10 HG10 B10 hb11 hm11
      go_wp2_with fail
      refine (held_strs_any xs.length _ _ _ (by omega) HM11.out).mono ?_
      rintro e w12 ⟨rfl, hb12⟩
      have hz12 := hb12.size
      have B12 := hid_mk (B11.out.trans (hb12.mono (by omega)))
      have F12 := hid_mk (F11.out.keep hb12 (by omega))
      have HS12 := hid_mk (own_late HS11.out hb12)
      have HM12 := hid_mk (own_late HM11.out hb12)
      clear F11 HS11 HM11 B11 hb12
      obtain ⟨p0, p1, p2, p3⟩ := F12.out
      have hq0 : ¬ ((xs.length : Int) + 1 < 0) := by omega
      have hqq : (((xs.length : Int) + 1) != ((xs.length : Int) + 1)) = false := by simp
      go_wp2_with fail
      refine (TO.out _ _ w.heap.size HF.out (by omega) (row_below B12.out (Nat.le_refl _) HR.out) hc).mono ?_
      rintro e w13 ⟨u13, rfl, hr13, hb13, _⟩
      obtain ⟨a13, c13, rfl⟩ := row_shape hr13
      have hz13 := hb13.size
      have B13 := hid_mk (B12.out.trans (hb13.mono (by omega)))
      have HS13 := hid_mk (own_late HS12.out hb13)
      have HM13 := hid_mk (own_late HM12.out hb13)
      have HR13 := hid_mk hr13
      clear p0 p1 p2 p3 F12 HS12 HM12 B12 hb13 hr13
      go_wp2_with fail
      refine (IM.out _ _ (row_wide HR13.out (Nat.zero_le _) (Nat.le_refl _)) hc B13.out).mono ?_
      rintro e w14 ⟨hv, rfl, hh14, hb14⟩
      obtain ⟨ha, hcc, rfl, _, _⟩ := own_shape hh14
      have hz14 := hb14.size
      have B14 := hid_mk (B13.out.trans (hb14.mono (by omega)))
      have HS14 := hid_mk (own_late HS13.out hb14)
      have HM14 := hid_mk (own_late HM13.out hb14)
      have HH14 := hid_mk hh14
      clear HS13 HM13 B13 hb14 hh14 HR13
      go_wp2_with fail
      refine (eq_strs_any xs _ _ _ _ _ (by omega) HH14.out HS14.out).mono ?_
      rintro e w15 ⟨rfl, hb15⟩
      have hz15 := hb15.size
      have B15 := hid_mk (B14.out.trans (hb15.mono (by omega)))
      have HM15 := hid_mk (own_late HM14.out hb15)
      clear HS14 HM14 B14 hb15 HH14
      go_wp2_with fail
      refine (held_strs_any xs.length _ _ _ (by omega) HM15.out).mono ?_
      rintro e w16 ⟨rfl, hb16⟩
      have B16 := hid_mk (B15.out.trans (hb16.mono (by omega)))
      clear HM15 B15 hb16
      go_wp2
      go_ret
      exact ⟨rfl, B16.out⟩
  · have hl : left' T.cost 1048576 = -1 := by unfold left'; rw [if_neg hc]
    go_enter Tryz.func5, Tryz.ntmps5
    go_wp2_with (go_at_call 6; refine (SZ.out _ 1048576 w.heap.size _ HF.out (by simp) (row_below (HB1 _).out (Nat.le_refl _) HR.out) (by omega)).mono ?_; rw [hl]; rintro e w1 ⟨rfl, hb1⟩)
    go_ret
    exact ⟨rfl, (HB1 _).out.trans (hb1.mono (by simp))⟩
end Go.Proofs.YtbjianmjdadehaaGreatDoor
namespace Go.Proofs.YtbjianmjdadehaaGreatDoor
namespace Tr
open Go.ChangeShapes Go.WideShapes Go.ChangeAt Go.WideMaps Go.WideElems Go.RowKit

set_option maxRecDepth 100000 in
theorem lifted (os : Os) (started : os.Started) (H : Type) (enc : TypeId × Value → H) :
    ReturnsInHanded {} Tryz.checked os 5 .any (fun w args => (Rows.fnExactTestsOfSpec.pre enc Tryz.prog Tryz.f5 [] false w args ∧ laidMetH Tryz.prog laid w) ∧ sizedMet enc Tryz.prog Tryz.f5 (OpenSpec.ofChange Rows.fnExactTestsOfSpec) false w args)
      (Rows.fnExactTestsOfSpec.post enc Tryz.prog Tryz.f5 false true false false) := by
  refine returnsInHanded_of_change_and (C := Tryz.checked) (X := fun w _ => laidMetH Tryz.prog laid w) (fun _ _ _ hh h => h.of_heap hh) own started (by kernel_rfl) Tryz.func5
    (ChangeSpec.witness_shaped (enc := enc) (C := Tryz.checked) (os := os) (X := fun w _ => laidMetH Tryz.prog laid w) false (World.doorLaid Tryz.prog 400 os) #[.agg #[.int .i64 0, .int .i64 0, .string ByteArray.empty, .slice none 0 0]] 8 rfl (World.shaped_of_RefB (by kernel_rfl) (by kernel_rfl)) (by kernel_rfl) (by kernel_rfl) (by kernel_rfl) (door_met os _)) ?_
  intro W base args ds gs before hval0 hW _ _ hL _
  have hval : ∀ (j : Nat) t v, Tryz.f5.params[j]? = some t → args[j]? = some v → Value.okWide Tryz.prog W .any base t v := hval0
  have hW' := hW
  obtain ⟨p, q, hA0, hV, rfl, hfz, hnd⟩ := hW
  have hA : DataW.TrodAll enc Tryz.prog W 0 (fun _ => true) true Tryz.f5.params.toList args.toList ds p := hA0
  rw [Tryz.params5] at hA hval
  obtain ⟨v0, vs0, d0, ds0, p0, q0, hargs, rfl, rfl, h0, r0⟩ := trodAll_cons hA
  obtain ⟨rfl, rfl, rfl⟩ := trodAll_nil r0
  obtain rfl : args = #[v0] := by cases args; simp_all
  obtain ⟨d1, d2, d3, rfl⟩ := three gs (show gs.length = 3 from vars_len hV)
  have hv0 := hval 0 24 v0 rfl rfl
  unfold Value.okWide at hv0
  rw [Tryz.underlying24] at hv0
  obtain ⟨cs, rfl, _, _⟩ := hv0
  obtain ⟨fuel, hfu⟩ := h0
  obtain ⟨T, u, hcs, hf, hr⟩ := open_nd Tryz.underlying24 rfl rfl rfl rfl Tryz.underlying3 Tryz.underlying3 Tryz.underlying9 Tryz.underlying22 (by kernel_rfl) (by kernel_rfl) (by kernel_rfl) (by kernel_rfl) (by kernel_rfl) fuel _ _ hfu
  have hcs' : cs.toList = [.int .i64 T.kind, .int .i64 T.num, .string T.name, u] := hcs
  obtain rfl : cs = #[.int .i64 T.kind, .int .i64 T.num, .string T.name, u] := by cases cs; simp_all
  refine (law_tests T u W hf hr (of_laid hL).1 (of_laid hL).2).mono fun e W' ⟨he, hb⟩ => ?_
  subst he
  exact ⟨_, rfl, law_post laidOut Tryz.underlying4 (by kernel_rfl) (by kernel_rfl) (by kernel_rfl) rfl hW' hb⟩

theorem said : Rows.FnExactTestsOfSaid :=
  OpenClaim.holds_of_wide 5 Tryz.f5 rfl rfl rfl rfl rfl rfl rfl ⟨rfl, rfl, rfl, rfl, rfl⟩ rfl rfl rfl rfl rfl (by kernel_rfl) Tryz.func5 (by kernel_rfl)
    (of_decide_eq_true (by kernel_rfl)) (by unfold Func.isWrapper; first | (rw [if_pos (by decide +kernel)]; kernel_rfl) | (rw [if_neg (by decide +kernel)]; exact ⟨rfl, rfl⟩))
    (fun os started H enc _ => lifted os started H enc)

theorem plain (f : FuncId) (fn : Func) (hf : Tryz.pinned.checked.prog.funcNamed "loop.example/g00135/laws.FnExactTestsOf" = some f) (hfn : Tryz.pinned.checked.prog.funcs[f]? = some fn) :
    true = Tryz.pinned.checked.prog.looks [] ∧ ∀ (j : Nat) t, fn.params[j]? = some t → Tryz.pinned.checked.prog.wantsStandIn t = false := by
  obtain rfl : f = 5 := Option.some.inj ((show Tryz.prog.funcNamed "loop.example/g00135/laws.FnExactTestsOf" = some 5 by kernel_rfl).symm.trans hf) |>.symm
  obtain rfl : fn = Tryz.f5 := (Option.some.inj (Tryz.func5.symm.trans hfn)).symm
  refine ⟨by kernel_rfl, fun j t ht => ?_⟩
  rw [Tryz.params5] at ht
  obtain rfl : t = 24 := by simpa using Array.mem_of_getElem? ht
  exact (show Tryz.prog.wantsStandIn 24 = false by kernel_rfl)
end Tr

theorem fnExactTestsOf_card : Rows.FnExactTestsOfCardSaid :=
  Claim7.holds_tied_plain_at .later [] _ _ _ _ Tr.said (fun _ h => by cases h) (by kernel_rfl) (fun _ h => by cases h) fnExactTestsOf_row_tie rfl ⟨rfl, rfl⟩ (by kernel_rfl) rfl Tr.plain (by kernel_rfl)
#print axioms fnExactTestsOf_card
end Go.Proofs.YtbjianmjdadehaaGreatDoor
