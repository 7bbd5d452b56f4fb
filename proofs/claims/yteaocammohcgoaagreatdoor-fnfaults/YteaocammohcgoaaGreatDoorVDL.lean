/- Proved: for every slice of bytes, however long, laws.FnFaults returns true, that is, of the program with something else in it that spec.SpoiltOf draws of the bytes impl.Check and impl.TypesOf answer the code and the place that the specification's Check answers, and impl.TreeOK what the specification's TreeOK answers (the law itself asks nothing of more than 1048576 bytes); it writes into no argument, and nothing that was in memory is changed; the package variables errors.errorType, impl.takenWords, impl.kidForms and impl.caseForms hold what their initialisers lay (the card ties them). -/
import Derived.Test.YteaocammohcgoaaGreatDoorVKhB
import Derived.Test.YteaocammohcgoaaGreatDoorVKhC
import Derived.Test.YteaocammohcgoaaGreatDoorCards
import Derived.Test.YteaocammohcgoaaGreatDoorTie
import Derived.Test.YteaocammohcgoaaGreatDoorVDJ
set_option linter.unusedVariables false
set_option maxHeartbeats 16000000
set_option maxRecDepth 100000
namespace Go.Proofs.YteaocammohcgoaaGreatDoor
open Go.RowKit
variable {G : Prop}
theorem bf0 (h : G := by
 go_wp2_with fail
 refine (cK sb _ 6 W6 (by omega) (by omega) oO.out.dw.src).mono ?_
 rintro e W7 ⟨q, hq, rfl, hs, hk⟩
 have gT := aa (oO.out.kp hs hk)
 clear hs hk oO
 have pT := uF T
 rcases (by omega : q = 0 ∨ q = 1 ∨ q = 2 ∨ q = 3 ∨ q = 4 ∨ q = 5) with rfl | rfl | rfl | rfl | rfl | rfl
 ·go_wp2_with fail
  refine (cK sb _ 32 W7 (by omega) (by omega) gT.out.dw.src).mono ?_
  rintro e W8 ⟨r, hr, rfl, hs, hk⟩
  have vQ := aa (gT.out.kp hs hk)
  clear hs hk
  have pq := aa (vQ.out.put0 (r : Int))
  obtain ⟨m0, m1, m2, m3, mf⟩ := ax vQ.out.out
  clear vQ gT
  go_upto_region 20 with fail
  obtain ⟨W9, Cl⟩ : ∃ W, W8.setCell ⟨bo, 0, none⟩ (.int .i64 (r : Int)) = W := ⟨_, rfl⟩
  have k_f6_0 := kk
  exact bf6
 ·go_wp2_with fail
  refine (cK sb _ 5 W7 (by omega) (by omega) gT.out.dw.src).mono ?_
  rintro e W8 ⟨r, hr, rfl, hs, hk⟩
  have vQ := aa (gT.out.kp hs hk)
  clear hs hk
  have Bd : IntKind.i64.wrap ((r : Int) - 1) = (r : Int) - 1 := fq (by omega) (by omega)
  have pq := aa (vQ.out.put1 ((r : Int) - 1))
  obtain ⟨m0, m1, m2, m3, mf⟩ := ax vQ.out.out
  clear vQ gT
  go_upto_region 20 with fail
  obtain ⟨W9, Cl⟩ : ∃ W, W8.setCell ⟨bo, 1, none⟩ (.int .i64 ((r : Int) - 1)) = W := ⟨_, rfl⟩
  have k_f6_1 := kk
  exact bf6
 ·go_wp2_with fail
  refine (ij (fun s => s.size ≤ 3) sb _ W7.heap.size 0 9 9 _ (by omega) (by omega) (by omega) (by have := gT.out.dw.src.lt; omega) (gT.out.dw.alloc _).src (ie (fun s => s.size ≤ 3) W7 [⟨#[]⟩, ⟨#[97]⟩, ⟨#[109]⟩, ⟨#[122, 122]⟩, ⟨#[105, 102]⟩, ⟨#[43]⟩, ⟨#[61, 61]⟩, ⟨#[33]⟩, ⟨#[97, 100, 100]⟩] 9 (by intro s hs; simp only [List.mem_cons, List.not_mem_nil, or_false] at hs; rcases hs with rfl | rfl | rfl | rfl | rfl | rfl | rfl | rfl | rfl <;> decide))).mono ?_
  rintro e W8 ⟨st, aM, rfl, hs, hk⟩
  have vQ := aa ((gT.out.calm (bO W7 _)).kp hs hk)
  clear hs hk
  have pq := aa (vQ.out.put2 st)
  obtain ⟨m0, m1, m2, m3, mf⟩ := ax vQ.out.out
  clear vQ gT
  go_upto_region 20 with fail
  obtain ⟨W9, Cl⟩ : ∃ W, W8.setCell ⟨bo, 2, none⟩ (.string st) = W := ⟨_, rfl⟩
  have k_f6_2 := kk
  exact bf6
 ·have GW7 := aa gT.out.gw
  have cP := aa gT.out.out
  have fY := aa gT.out.dw
  have ND : bo < W7.heap.size := (Array.getElem?_eq_some_iff.1 cP.out).1
  have lp : bo ≠ sb := by have := fY.out.low; have := gT.out.bol; omega
  have hbol := gT.out.bol
  have S4 := gT.out.ne
  have KZ := gT.out.own
  have S8 := gT.out.low
  have KY := gT.out.gw.own.lt
  have hlw := fY.out.low
  have nH := aa S4
  have Qy := aa KZ
  have HOL := aa KY
  clear S4 KZ KY
  go_upto_region 16 with fail
  have ji : ar (fun _ => 0) 7 = 0 := by simp [ar]
  have bH := jK
  refine cQ bH (by kernel_rfl) rq (qx bo W7.heap.size lo hi (W1.heap.size + 1) a T c) (GS sb (B + 3) (fun _ => 0) 7 4 6 W1 W7 (bo) (Ki sb (B + 3) lo hi (W1.heap.size + 1) bo T W1)) (GS.start _ fY.out) ?_ ?_
  ·intro l a_ v i hI hr
   have zl : i < 7 := (bj hr).1
   have cG := (bj hr).2
   have th : l.size = 7 := hI.lsize
   have HS := aa hI.s
   have jB := aa hI.shut
   have b6 := aa (fun (v' : World) (hw : ∀ jj x, l.getD jj false = true → qx bo W7.heap.size lo hi (W1.heap.size + 1) a T c jj v x → qx bo W7.heap.size lo hi (W1.heap.size + 1) a T c jj v' x) (iC : GS sb (B + 3) (fun _ => 0) 7 4 6 W1 W7 (bo) (Ki sb (B + 3) lo hi (W1.heap.size + 1) bo T W1) (l.setIfInBounds i true) v') (x : Value) (hx : qx bo W7.heap.size lo hi (W1.heap.size + 1) a T c i v' x) (b8 : rq i < 101) => hI.put F5 hr b8 hw iC hx)
   have po := aa (fun (v' : World) (hw : ∀ jj x, l.getD jj false = true → qx bo W7.heap.size lo hi (W1.heap.size + 1) a T c jj v x → qx bo W7.heap.size lo hi (W1.heap.size + 1) a T c jj v' x) (iC : GS sb (B + 3) (fun _ => 0) 7 4 6 W1 W7 (bo) (Ki sb (B + 3) lo hi (W1.heap.size + 1) bo T W1) (l.setIfInBounds i true) v') (hx : ∀ x, qx bo W7.heap.size lo hi (W1.heap.size + 1) a T c i v' x) => hI.none hr hw iC hx)
   have bC := aa (fun (j : Nat) (hj : j < 7) (hl : l.getD j false = true) => hI.vals j hj hl)
   have bc := fG hr
   have s6 : a_.tmps[6]?.getD undef = .pointer (some ⟨bo, 0, none⟩) := ab (hI.keep 6 (by intro i hi; have h2 : i < 7 := hi; show 6 ≠ rq i; have : ((List.range 7).all fun i => decide (rq i ≠ 6)) = true := (by decide); have h3 := List.all_eq_true.1 this i (List.mem_range.2 h2); simp at h3; exact fun e => h3 e.symm))
   clear hI hr
   rcases (by omega : i = 0 ∨ i = 1 ∨ i = 2 ∨ i = 3 ∨ i = 4 ∨ i = 5 ∨ i = 6) with rfl | rfl | rfl | rfl | rfl | rfl | rfl
   all_goals (refine cS rfl rfl ?_)
   ·exact bf3
   ·have h83 := ab (show a_.eval (.tmp 83) = .pointer (some ⟨bo, 3, none⟩) from ag bC bc 0 rfl)
    have k_f5_0 := kk
    exact bf5
   ·have k_f5_1 := kk
    exact bf5
   ·have h85 := ab (show a_.eval (.tmp 85) = .agg #[.int .i64 22, .int .i64 1, .string ⟨#[]⟩, .slice none 0 0] from ag bC bc 2 rfl)
    have k_f5_2 := kk
    exact bf5
   ·have h84 : a_.eval (.tmp 84) = .slice a T.len c := ag bC bc 1 rfl
    obtain ⟨T3, a3, c3, rfl, hx, wa⟩ : LV W7.heap.size (fun T => T = bX 0 0 ⟨#[]⟩ (aq 22 1 ⟨#[]⟩)) v (a_.eval (.tmp 86)) := ag bC bc 3 rfl
    have bD := cC cG
    have aM := dm (f := 40) (j := 6) jB.out (by kernel_rfl) cG
    obtain ⟨dj, di⟩ := HS.out.pre bD
    have il := di.size
    obtain ⟨aj, cj, v2, LN, ei, fz, aX, eF⟩ := gH (GW7.out.kp (sb := sb) S8.1 di) wa (by omega) (by omega) il lr (fun g hg => .inl (HOL.out g hg).2) (by show T.len + 1 ≤ _; omega)
    refine jC rfl h84 hx (ei _) ?_
    refine b6.out v2 (tK (Wn.of_grown aX (fun k hk => (HOL.out k hk).2)) bD aM) (HS.out.join (by omega) cG (by decide) aM (by omega) lp aX (fun k hk => ⟨by have := Qy.out k hk; omega, fun e => nH.out (by rw [hk, e])⟩)) _ ⟨_, _, _, aj, cj, rfl, fz, ?_, ?_, fun i hi => ?_⟩ (by decide)
    ·intro g hg
     rcases eF with e | ⟨k, e, hk⟩
     ·exact Qy.out g (e ▸ hg)
     ·have e3 : (Value.slice aj (T.len + 1) cj).ownBlock = some k := e
      rw [e3] at hg; have := Option.some.inj hg; omega
    ·rcases eF with e | ⟨k, e, hk⟩
     ·exact fun h => nH.out (e ▸ h)
     ·have e3 : (Value.slice aj (T.len + 1) cj).ownBlock = some k := e
      rw [e3]; intro h; have := Option.some.inj h; omega
    ·by_cases h3 : i < T.len
     ·rw [bw _ _ h3, bw _ _ h3]; exact ⟨.inr (by omega), fun k h1 h2 => .inl ⟨h1, h2⟩⟩
     ·rw [bW _ _ (by omega), bW _ _ (by omega)]; exact ⟨.inl ND, fun k h1 h2 => .inr (by have := fY.out.size; omega)⟩
   ·exact bf3
   ·have h88 := ab (show a_.eval (.tmp 88) = .pointer (some ⟨bo, 3, none⟩) from ag bC bc 5 rfl)
    obtain ⟨LN, s2, e2, a2, c2, hx, fz, hP, rU, rT⟩ : AVS lo hi (W1.heap.size + 1) bo T v (a_.eval (.tmp 87)) := ag bC bc 4 rfl
    have h87 := ab hx
    have Bm : l.getD 4 false = true := bc.out _ rfl ⟨4, Ground.data⟩ (by simp) rfl
    obtain ⟨dj, gE⟩ := HS.out.mid Bm (cC cG)
    rw [ji] at dj
    have kC := gE.trans cP.out
    obtain ⟨z0, z1, z2, z3, zf⟩ := ax kC
    have Kx := zf 3
    have HF16 : Hid (Ki sb (B + 3) lo hi (W1.heap.size + 1) bo T W1 (v.setCell ⟨bo, 3, none⟩ (.slice a2 (T.len + 1) c2))) := ⟨dj.put _ _ _ (by omega), a2, c2, (heap_setCell_same v bo 3 _ 25 (.slice a2 (T.len + 1) c2) kC).trans rfl, (fz.put rU (fun i hi => (rT i hi).1)).rowU hP (fun i hi => (rT i hi).2) _ _ _⟩
    clear hx dj gE kC fz zf hP rU rT
    go_simp
    exact po.out _ (fun j x _ hx => JV ND j x hx) (GS.store (by omega) (.inr Bm) HF16.out) (fun _ => trivial)
  ·intro a_ v b8 jv cz qc ee
   obtain ⟨l, hS, bl⟩ := qc
   have HF := aa (hS.fin (bl 6 (by decide)))
   rw [eJ (n := 7) b8 jv cz]
   generalize (fun i => a_.eval (.tmp (rq i))) = ff
   clear b8 jv cz ee hS bl
   simp only [ig, Act.put, rq, List.getD_cons_zero, List.getD_cons_succ, List.setIfInBounds_toArray, List.set_cons_succ, List.set_cons_zero, List.set_nil]
   obtain ⟨dj, a2, c2, fP, hru⟩ := HF.out
   have yD := aa dj
   have HRq := aa hru
   obtain ⟨m0, m1, m2, m3, mf⟩ := ax fP
   obtain ⟨f0, f1, f2, f3, Qn⟩ := yD.out.cells
   clear dj hru HF fP cP GW7 fY gT nH Qy HOL
   go_wp2
   refine bodyPost_ret (yD.out.read Tryz.results26 rfl _ _ _ _) rfl ⟨.mk T.kind T.num T.name (T.len + 1) (cJ T.kids T.len (bX 0 0 ⟨#[]⟩ (aq 22 1 ⟨#[]⟩)).kids), a2, c2, rfl, ?_⟩
   exact (iT yD.out eB.out vN.out dF HRq.out (AW hf (by omega)) (AX T)).more (by omega)
 ·by_cases hx : T.len = 0
  ·first
   |(exfalso; omega)
   |have Cn : ¬ (0 : Int) < (T.len : Int) := by omega
    clear hx
    have pq := aa gT.out
    clear gT
    obtain ⟨m0, m1, m2, m3, mf⟩ := ax pq.out.out
    obtain ⟨f0, f1, f2, f3, Qn⟩ := pq.out.dw.cells
    go_wp2
    refine bodyPost_ret (pq.out.dw.read Tryz.results26 rfl _ _ _ _) rfl ⟨.mk T.kind T.num T.name T.len T.kids, a, c, rfl, ?_⟩
    exact (iT pq.out.dw eB.out vN.out dF (pq.out.rowU _ _ _) (lX hf (Nd.fine_nums hf).1 (Nd.fine_nums hf).2 (Nd.fine_name hf)) (lY T (by omega))).more (by omega)
  ·first
   |(exfalso; omega)
   |have Cn : (0 : Int) < (T.len : Int) := by omega
    obtain ⟨l, hl⟩ : ∃ l, T.len = l + 1 := ⟨T.len - 1, by omega⟩
    have h0z : ¬ T.len = 0 := by omega
    obtain ⟨g, rfl⟩ : ∃ g, a = some ⟨g, 0, none⟩ := by
     rcases gT.out.gw.own.2 with ⟨_, e⟩ | ⟨g, cap, cur, e, _⟩
     ·exact absurd e h0z
     ·injection e with e _ _; exact ⟨g, e⟩
    obtain ⟨c1, c2, c3, c4⟩ := gT.out.gw.caps
    have iM := gT.out.gw
    rw [hl] at iM
    have dG := gT.out.own g rfl
    have lu := gT.out.bol
    have hlw := gT.out.low
    have dE : g ≠ bo := fun e => gT.out.ne (by rw [e]; rfl)
    have Ya : Hid (RowU lo hi (W1.heap.size + 1) (W7.setCell ⟨bo, 3, none⟩ (.slice (some ⟨g, 0, none⟩) l c)) (.mk T.kind T.num T.name l T.kids) (.slice (some ⟨g, 0, none⟩) l c)) :=
     (iM.less.put (by simp [Value.ownBlock]; exact dE) (fun i _ => .inr (by omega))).rowU (fun g' Bn => by simp [Value.ownBlock] at Bn; omega) (fun i _ k h1 h2 => .inl ⟨h1, h2⟩) _ _ _
    have tV := aa (gT.out.dw.put bo 3 (.slice (some ⟨g, 0, none⟩) l c) (by omega))
    have pr := aa ((heap_setCell_same W7 bo 3 _ 25 (.slice (some ⟨g, 0, none⟩) l c) gT.out.out).trans rfl)
    obtain ⟨m0, m1, m2, m3, mf⟩ := ax gT.out.out
    have hli : (T.len : Int) - 1 = (l : Int) := by omega
    have Bd : IntKind.i64.wrap ((T.len : Int) - 1) = (l : Int) := by rw [fq (by omega) (by omega)]; exact hli
    have IB : (l : Int) ≤ (c : Int) := by omega
    have hlc2 : l ≤ c := by omega
    have hle : l ≤ T.len := by omega
    clear gT iM hl
    go_upto_region 20 with fail
    obtain ⟨W9, Cl⟩ : ∃ W, W7.setCell ⟨bo, 3, none⟩ (.slice (some ⟨g, 0, none⟩) l c) = W := ⟨_, rfl⟩
    rw [Cl] at Ya tV pr ⊢
    clear Cl m0 m1 m2 m3 mf
    obtain ⟨m0, m1, m2, m3, mf⟩ := ax (k := T.kind) (n := T.num) (s := T.name) (a := some ⟨g, 0, none⟩) (l := l) (c := c) pr.out
    obtain ⟨f0, f1, f2, f3, Qn⟩ := tV.out.cells
    go_wp2
    refine bodyPost_ret (tV.out.read Tryz.results26 rfl _ _ _ _) rfl ⟨.mk T.kind T.num T.name l T.kids, some ⟨g, 0, none⟩, c, rfl, ?_⟩
    exact (iT tV.out eB.out vN.out dF Ya.out (A4 hf hle) (A5 T hle)).more (by omega)
 ·have fY := aa gT.out.dw
  have lu := gT.out.bol
  have hlw := gT.out.low
  have Td := fY.out.size
  clear gT
  go_wp2_with fail
  refine (fE 7 _).mono ?_
  rintro e x1 ⟨rfl, hb1⟩
  have NL : Below W7.heap.size W7 x1 := hb1
  have eT := NL.size
  have D1 := aa (fY.out.calm NL)
  clear hb1 NL 
  go_wp2_with fail
  refine (bU 23 1 ⟨#[]⟩ _ _ _ _).mono ?_
  rintro e x2 ⟨rfl, ba⟩
  have NK : Below x1.heap.size x1 x2 := ba
  have ed := NK.size
  have D2 := aa (D1.out.calm NK)
  clear ba NK 
  go_wp2_with fail
  refine (aQ 24 ⟨#[122, 122]⟩ _ _ _ _).mono ?_
  rintro e x3 ⟨rfl, cZ⟩
  have NJ : Below x2.heap.size x2 x3 := cZ
  have Cd := NJ.size
  have D3 := aa (D2.out.calm NJ)
  clear cZ NJ 
  go_wp2_with fail
  refine (aQ 24 ⟨#[109]⟩ _ _ _ _).mono ?_
  rintro e x4 ⟨rfl, kL⟩
  have NI : Below x3.heap.size x3 x4 := kL
  have KL := NI.size
  have D4 := aa (D3.out.calm NI)
  clear kL NI 
  go_wp2_with fail
  refine (fE 1 _).mono ?_
  rintro e x5 ⟨rfl, qY⟩
  have NH : Below x4.heap.size x4 x5 := qY
  have PY := NH.size
  have D5 := aa (D4.out.calm NH)
  clear qY NH 
  have TR := bO x5 (.cells #[.int .i64 22, .int .i64 1, .string ⟨#[]⟩, .slice none 0 0] 25)
  have R6 := aa (LV.one (lo := W7.heap.size) (A := aq 22 1 ⟨#[]⟩) (by omega : W7.heap.size ≤ x5.heap.size) (cO W7.heap.size x5.heap.size x5 22 1 ⟨#[]⟩))
  go_wp2_with fail
  refine (jd ⟨#[97, 100, 100]⟩ _ _ _ _).mono ?_
  rintro e x6 ⟨rfl, oU⟩
  have NG : Below x5.heap.size x5 x6 := TR.trans (oU.mono (by simp))
  have zK := aa (aO (ah oU lr R6.out) lr oU.size)
  clear R6
  have MY := NG.size
  have D6 := aa (D5.out.calm NG)
  clear oU NG TR
  have g6 : Hid (x5.heap.size = x5.heap.size) := rfl
  go_wp2_with fail
  refine (fE 1 _).mono ?_
  rintro e x7 ⟨rfl, Ck⟩
  have IR : Below x6.heap.size x6 x7 := Ck
  have MX := IR.size
  have D7 := aa (D6.out.calm IR)
  have zK := aa (aO (ah IR lr zK.out) lr MX)
  clear Ck IR 
  have TQ := bO x7 (.cells #[.int .i64 22, .int .i64 1, .string ⟨#[]⟩, .slice none 0 0] 25)
  have R8 := aa (LV.one (lo := W7.heap.size) (A := aq 22 1 ⟨#[]⟩) (by omega : W7.heap.size ≤ x7.heap.size) (cO W7.heap.size x7.heap.size x7 22 1 ⟨#[]⟩))
  go_wp2_with fail
  refine (jd ⟨#[115, 104, 111, 119]⟩ _ _ _ _).mono ?_
  rintro e x8 ⟨rfl, hb8⟩
  have IQ : Below x7.heap.size x7 x8 := TQ.trans (hb8.mono (by simp))
  have Gk := aa (aO (ah hb8 lr R8.out) lr hb8.size)
  clear R8
  have hz8 := IQ.size
  have D8 := aa (D7.out.calm IQ)
  have zK := aa (aO (ah IQ lr zK.out) lr hz8)
  clear hb8 IQ TQ
  have g8 : Hid (x7.heap.size = x7.heap.size) := rfl
  go_wp2_with fail
  refine (bU 4 0 ⟨#[]⟩ _ _ _ _).mono ?_
  rintro e x9 ⟨rfl, ET⟩
  have ES : Below x8.heap.size x8 x9 := ET
  have hz9 := ES.size
  have D9 := aa (D8.out.calm ES)
  have zK := aa (aO (ah ES lr zK.out) lr hz9)
  have Gk := aa (aO (ah ES lr Gk.out) lr hz9)
  clear ET ES 
  go_wp2_with fail
  refine (bU 17 0 ⟨#[]⟩ _ _ _ _).mono ?_
  rintro e Kz ⟨rfl, TU⟩
  have ve : Below x9.heap.size x9 Kz := TU
  have Sf := ve.size
  have D10 := aa (D9.out.calm ve)
  have zK := aa (aO (ah ve lr zK.out) lr Sf)
  have Gk := aa (aO (ah ve lr Gk.out) lr Sf)
  clear TU ve 
  go_wp2_with fail
  refine (fE 1 _).mono ?_
  rintro e tQ ⟨rfl, TT⟩
  have vd : Below Kz.heap.size Kz tQ := TT
  have Se := vd.size
  have D11 := aa (D10.out.calm vd)
  have zK := aa (aO (ah vd lr zK.out) lr Se)
  have Gk := aa (aO (ah vd lr Gk.out) lr Se)
  clear TT vd 
  have Lh := bO tQ (.cells #[.int .i64 22, .int .i64 1, .string ⟨#[]⟩, .slice none 0 0] 25)
  have XZ := aa (LV.one (lo := W7.heap.size) (A := aq 22 1 ⟨#[]⟩) (by omega : W7.heap.size ≤ tQ.heap.size) (cO W7.heap.size tQ.heap.size tQ 22 1 ⟨#[]⟩))
  go_wp2_with fail
  refine (bU 12 0 ⟨#[]⟩ _ _ _ _).mono ?_
  rintro e iR ⟨rfl, IU⟩
  have u9 : Below tQ.heap.size tQ iR := Lh.trans (IU.mono (by simp))
  have XY := aa (aO (ah IU lr XZ.out) lr IU.size)
  clear XZ
  have Sd := u9.size
  have D12 := aa (D11.out.calm u9)
  have zK := aa (aO (ah u9 lr zK.out) lr Sd)
  have Gk := aa (aO (ah u9 lr Gk.out) lr Sd)
  clear IU u9 Lh
  have g12 : Hid (tQ.heap.size = tQ.heap.size) := rfl
  have Lg := bO iR (.cells #[.int .i64 22, .int .i64 7, .string ⟨#[]⟩, .slice none 0 0, .int .i64 23, .int .i64 1, .string ⟨#[]⟩, .slice none 0 0, .int .i64 24, .int .i64 0, .string ⟨#[122, 122]⟩, .slice none 0 0, .int .i64 24, .int .i64 0, .string ⟨#[109]⟩, .slice none 0 0, .int .i64 25, .int .i64 0, .string ⟨#[97, 100, 100]⟩, .slice (some ⟨x5.heap.size, 0, none⟩) 1 1, .int .i64 25, .int .i64 0, .string ⟨#[115, 104, 111, 119]⟩, .slice (some ⟨x7.heap.size, 0, none⟩) 1 1, .int .i64 4, .int .i64 0, .string ⟨#[]⟩, .slice none 0 0, .int .i64 17, .int .i64 0, .string ⟨#[]⟩, .slice none 0 0, .int .i64 12, .int .i64 0, .string ⟨#[]⟩, .slice (some ⟨tQ.heap.size, 0, none⟩) 1 1] 25)
  have DL := aa (D12.out.calm Lg)
  have RL6 := aa (aO (ah Lg lr zK.out) lr Lg.size)
  have RL8 := aa (aO (ah Lg lr Gk.out) lr Lg.size)
  have Pj := aa (aO (ah Lg lr XY.out) lr Lg.size)
  have bF := aa (heap_alloc_new iR (.cells #[.int .i64 22, .int .i64 7, .string ⟨#[]⟩, .slice none 0 0, .int .i64 23, .int .i64 1, .string ⟨#[]⟩, .slice none 0 0, .int .i64 24, .int .i64 0, .string ⟨#[122, 122]⟩, .slice none 0 0, .int .i64 24, .int .i64 0, .string ⟨#[109]⟩, .slice none 0 0, .int .i64 25, .int .i64 0, .string ⟨#[97, 100, 100]⟩, .slice (some ⟨x5.heap.size, 0, none⟩) 1 1, .int .i64 25, .int .i64 0, .string ⟨#[115, 104, 111, 119]⟩, .slice (some ⟨x7.heap.size, 0, none⟩) 1 1, .int .i64 4, .int .i64 0, .string ⟨#[]⟩, .slice none 0 0, .int .i64 17, .int .i64 0, .string ⟨#[]⟩, .slice none 0 0, .int .i64 12, .int .i64 0, .string ⟨#[]⟩, .slice (some ⟨tQ.heap.size, 0, none⟩) 1 1] 25))
  obtain ⟨WL, hWL⟩ : ∃ W, iR.alloc (.cells #[.int .i64 22, .int .i64 7, .string ⟨#[]⟩, .slice none 0 0, .int .i64 23, .int .i64 1, .string ⟨#[]⟩, .slice none 0 0, .int .i64 24, .int .i64 0, .string ⟨#[122, 122]⟩, .slice none 0 0, .int .i64 24, .int .i64 0, .string ⟨#[109]⟩, .slice none 0 0, .int .i64 25, .int .i64 0, .string ⟨#[97, 100, 100]⟩, .slice (some ⟨x5.heap.size, 0, none⟩) 1 1, .int .i64 25, .int .i64 0, .string ⟨#[115, 104, 111, 119]⟩, .slice (some ⟨x7.heap.size, 0, none⟩) 1 1, .int .i64 4, .int .i64 0, .string ⟨#[]⟩, .slice none 0 0, .int .i64 17, .int .i64 0, .string ⟨#[]⟩, .slice none 0 0, .int .i64 12, .int .i64 0, .string ⟨#[]⟩, .slice (some ⟨tQ.heap.size, 0, none⟩) 1 1] 25) = W := ⟨_, rfl⟩
  have HWL := aa hWL
  have hzL : WL.heap.size = iR.heap.size + 1 := by rw [← hWL]; simp
  rw [hWL] at DL RL6 RL8 Pj bF
  clear Lg hWL zK Gk XY
  go_wp2_with fail
  rw [show (iR.alloc (Obj.cells #[.int .i64 22, .int .i64 7, .string ⟨#[]⟩, .slice none 0 0, .int .i64 23, .int .i64 1, .string ⟨#[]⟩, .slice none 0 0, .int .i64 24, .int .i64 0, .string ⟨#[122, 122]⟩, .slice none 0 0, .int .i64 24, .int .i64 0, .string ⟨#[109]⟩, .slice none 0 0, .int .i64 25, .int .i64 0, .string ⟨#[97, 100, 100]⟩, .slice (some ⟨x5.heap.size, 0, none⟩) 1 1, .int .i64 25, .int .i64 0, .string ⟨#[115, 104, 111, 119]⟩, .slice (some ⟨x7.heap.size, 0, none⟩) 1 1, .int .i64 4, .int .i64 0, .string ⟨#[]⟩, .slice none 0 0, .int .i64 17, .int .i64 0, .string ⟨#[]⟩, .slice none 0 0, .int .i64 12, .int .i64 0, .string ⟨#[]⟩, .slice (some ⟨tQ.heap.size, 0, none⟩) 1 1] 25)) = WL from HWL.out]
  clear HWL
  refine (cK sb _ 9 WL (by omega) (by omega) DL.out.src).mono ?_
  rintro e WM ⟨r, hr, rfl, hs, hk⟩
  have DM := aa (DL.out.step hs hk)
  have hlsb := DL.out.low
  have BM := aa (cm bF.out (by omega) hk)
  have RM6 := aa (aO (fJ RL6.out (by omega) lr hk) lr hk.size)
  have RM8 := aa (aO (fJ RL8.out (by omega) lr hk) lr hk.size)
  have RM12 := aa (aO (fJ Pj.out (by omega) lr hk) lr hk.size)
  clear hs hk DL bF RL6 RL8 Pj
  have jw := fun j => cell_of_row _ _ j _ _ (0, 0) BM.out
  obtain ⟨f0, f1, f2, f3, Qn⟩ := DM.out.cells
  rcases (by omega : r = 0 ∨ r = 1 ∨ r = 2 ∨ r = 3 ∨ r = 4 ∨ r = 5 ∨ r = 6 ∨ r = 7 ∨ r = 8) with rfl | rfl | rfl | rfl | rfl | rfl | rfl | rfl | rfl
  ·have y0 : WM.cell? ⟨iR.heap.size, 0, none⟩ = _ := jw 0
   have y1 : WM.cell? ⟨iR.heap.size, 1, none⟩ = _ := jw 1
   have y2 : WM.cell? ⟨iR.heap.size, 2, none⟩ = _ := jw 2
   have y3 : WM.cell? ⟨iR.heap.size, 3, none⟩ = _ := jw 3
   have k_f11_0 := kk
   exact bf11
  ·have y0 : WM.cell? ⟨iR.heap.size, 4, none⟩ = _ := jw 4
   have y1 : WM.cell? ⟨iR.heap.size, 5, none⟩ = _ := jw 5
   have y2 : WM.cell? ⟨iR.heap.size, 6, none⟩ = _ := jw 6
   have y3 : WM.cell? ⟨iR.heap.size, 7, none⟩ = _ := jw 7
   have k_f11_1 := kk
   exact bf11
  ·have y0 : WM.cell? ⟨iR.heap.size, 8, none⟩ = _ := jw 8
   have y1 : WM.cell? ⟨iR.heap.size, 9, none⟩ = _ := jw 9
   have y2 : WM.cell? ⟨iR.heap.size, 10, none⟩ = _ := jw 10
   have y3 : WM.cell? ⟨iR.heap.size, 11, none⟩ = _ := jw 11
   have k_f11_2 := kk
   exact bf11
  ·have y0 : WM.cell? ⟨iR.heap.size, 12, none⟩ = _ := jw 12
   have y1 : WM.cell? ⟨iR.heap.size, 13, none⟩ = _ := jw 13
   have y2 : WM.cell? ⟨iR.heap.size, 14, none⟩ = _ := jw 14
   have y3 : WM.cell? ⟨iR.heap.size, 15, none⟩ = _ := jw 15
   have k_f11_3 := kk
   exact bf11
  ·have y0 : WM.cell? ⟨iR.heap.size, 16, none⟩ = _ := jw 16
   have y1 : WM.cell? ⟨iR.heap.size, 17, none⟩ = _ := jw 17
   have y2 : WM.cell? ⟨iR.heap.size, 18, none⟩ = _ := jw 18
   have y3 : WM.cell? ⟨iR.heap.size, 19, none⟩ = _ := jw 19
   have k_f11_4 := kk
   exact bf11
  ·have y0 : WM.cell? ⟨iR.heap.size, 20, none⟩ = _ := jw 20
   have y1 : WM.cell? ⟨iR.heap.size, 21, none⟩ = _ := jw 21
   have y2 : WM.cell? ⟨iR.heap.size, 22, none⟩ = _ := jw 22
   have y3 : WM.cell? ⟨iR.heap.size, 23, none⟩ = _ := jw 23
   have k_f11_5 := kk
   exact bf11
  ·have y0 : WM.cell? ⟨iR.heap.size, 24, none⟩ = _ := jw 24
   have y1 : WM.cell? ⟨iR.heap.size, 25, none⟩ = _ := jw 25
   have y2 : WM.cell? ⟨iR.heap.size, 26, none⟩ = _ := jw 26
   have y3 : WM.cell? ⟨iR.heap.size, 27, none⟩ = _ := jw 27
   have k_f11_6 := kk
   exact bf11
  ·have y0 : WM.cell? ⟨iR.heap.size, 28, none⟩ = _ := jw 28
   have y1 : WM.cell? ⟨iR.heap.size, 29, none⟩ = _ := jw 29
   have y2 : WM.cell? ⟨iR.heap.size, 30, none⟩ = _ := jw 30
   have y3 : WM.cell? ⟨iR.heap.size, 31, none⟩ = _ := jw 31
   have k_f11_7 := kk
   exact bf11
  ·have y0 : WM.cell? ⟨iR.heap.size, 32, none⟩ = _ := jw 32
   have y1 : WM.cell? ⟨iR.heap.size, 33, none⟩ = _ := jw 33
   have y2 : WM.cell? ⟨iR.heap.size, 34, none⟩ = _ := jw 34
   have y3 : WM.cell? ⟨iR.heap.size, 35, none⟩ = _ := jw 35
   have k_f11_8 := kk
   exact bf11) : G := h
theorem bf1 (h : G := by
 have := List.all_eq_true.1 (List.all_eq_true.1 this i (List.mem_range.2 hi)) j (List.mem_range.2 hj)
 simpa [h] using this) : G := h
theorem bf2 (h : G := by
 exact (iT DM.out eB.out vN.out dF (o6 (cO W7.heap.size _ _ _ _ _) (by omega) (by omega)) (aJ (by omega) (by omega) (by decide)) (by rw [bm]; exact Nat.le_trans (by decide : _ ≤ 30) (Nat.le_add_left _ _))).more (by omega)) : G := h
theorem bf3 (h : G := by
 go_simp
 exact b6.out v (fun _ _ _ h => h) (HS.out.same (by omega) cG (by decide) (by decide) rfl) _ rfl (by decide)) : G := h
theorem bf4 (h : G := by
 have k_f8_3 := kk
 exact bf8) : G := h
theorem bf5 (h : G := by
 have bD := dm (f := 40) (j := 4) jB.out (by kernel_rfl) cG
 have aM := dm (f := 40) (j := 6) jB.out (by kernel_rfl) cG
 obtain ⟨dj, di⟩ := HS.out.pre bD
 first
 |clear k_f5_0
  obtain ⟨z0, z1, z2, z3, zf⟩ := ax (cm cP.out lp di)
  clear dj di
  exact bf3
 |clear k_f5_1
  clear dj di
  go_simp
  refine (fE 1 v).mono ?_
  rintro e v2 ⟨rfl, hb⟩
  exact b6.out v2 (tK (Wn.of_calm hb) bD aM) (HS.out.calm (by omega) cG (by decide) (by decide) rfl bD aM hb) _ rfl (by decide)
 |clear k_f5_2
  have il := di.size
  go_simp
  exact b6.out _ (tK (Wn.of_calm (bA)) bD aM) (HS.out.calm (by omega) cG (by decide) (by decide) rfl bD aM (bA)) _ ⟨bX 0 0 ⟨#[]⟩ (aq 22 1 ⟨#[]⟩), _, _, rfl, rfl, LV.one (A := aq 22 1 ⟨#[]⟩) il (cO _ _ _ _ _ _)⟩ (by decide)) : G := h
theorem bf6 (h : G := by
 rw [Cl] at pq ⊢
 clear Cl m0 m1 m2 m3 mf
 obtain ⟨m0, m1, m2, m3, mf⟩ := ax pq.out.out
 obtain ⟨f0, f1, f2, f3, Qn⟩ := pq.out.dw.cells
 go_wp2
 first
 |clear k_f6_0
  refine bodyPost_ret (pq.out.dw.read Tryz.results26 rfl _ _ _ _) rfl ⟨.mk (r : Int) T.num T.name T.len T.kids, a, c, rfl, ?_⟩
  exact (iT pq.out.dw eB.out vN.out dF (pq.out.rowU _ _ _) (lX hf (by omega) (Nd.fine_nums hf).2 (Nd.fine_name hf)) (lY T (by omega))).more (by omega)
 |clear k_f6_1
  refine bodyPost_ret (pq.out.dw.read Tryz.results26 rfl _ _ _ _) rfl ⟨.mk T.kind ((r : Int) - 1) T.name T.len T.kids, a, c, rfl, ?_⟩
  exact (iT pq.out.dw eB.out vN.out dF (pq.out.rowU _ _ _) (lX hf (Nd.fine_nums hf).1 (by omega) (Nd.fine_name hf)) (lY T (by omega))).more (by omega)
 |clear k_f6_2
  refine bodyPost_ret (pq.out.dw.read Tryz.results26 rfl _ _ _ _) rfl ⟨.mk T.kind T.num st T.len T.kids, a, c, rfl, ?_⟩
  exact (iT pq.out.dw eB.out vN.out dF (pq.out.rowU _ _ _) (lX hf (Nd.fine_nums hf).1 (Nd.fine_nums hf).2 (by omega)) (lY T (by omega))).more (by omega)) : G := h
theorem bf7 (h : G := by
 refine lI rfl rfl rfl (show a'.eval (.tmp 45) = .bool true from VD.out 13 (by omega) (bc.out _ rfl ⟨13, Ground.guard⟩ (by simp) rfl)) ?_
 first
 |clear k_f7_0
  go_simp
  exact b6.out 14 (by omega) v (Below.refl _ _) _ (congrFun mB.out 14).symm
 |clear k_f7_1
  go_simp
  exact b6.out 15 (by omega) v (Below.refl _ _) _ (congrFun mB.out 15).symm
 |clear k_f7_2
  have h46 := ab (show a'.eval (.tmp 46) = .int .i64 pl from VD.out 14 (by omega) (bc.out _ rfl ⟨14, Ground.data⟩ (by simp) rfl))
  have h47 := ab (show a'.eval (.tmp 47) = .int .i64 pl from VD.out 15 (by omega) (bc.out _ rfl ⟨15, Ground.data⟩ (by simp) rfl))
  go_simp
  exact b6.out 16 (by omega) v (Below.refl _ _) _ (congrFun mB.out 16).symm) : G := h
theorem bf8 (h : G := by
 refine lI rfl rfl rfl (show a'.eval (.tmp 50) = .bool true from VD.out 18 (by omega) (bc.out _ rfl ⟨18, Ground.guard⟩ (by simp) rfl)) ?_
 first
 |clear k_f8_0
  have h51 := ab (show a'.eval (.tmp 51) = .agg #[.int .i64 T.kind, .int .i64 T.num, .string T.name, .slice a T.len c] from VD.out 19 (by omega) (bc.out _ rfl ⟨19, Ground.data⟩ (by simp) rfl))
  go_simp
  refine (IM.out v (B6.out.trans (iu.out.mono (by omega)))).mono ?_
  rintro e v2 ⟨rfl, hb⟩
  exact b6.out 20 (by omega) v2 hb _ (congrFun mB.out 20).symm
 |clear k_f8_1
  have h53 := ab (show a'.eval (.tmp 53) = .agg #[.int .i64 T.kind, .int .i64 T.num, .string T.name, .slice a T.len c] from VD.out 21 (by omega) (bc.out _ rfl ⟨21, Ground.data⟩ (by simp) rfl))
  go_simp
  refine (SM.out v (B6.out.trans (iu.out.mono (by omega)))).mono ?_
  rintro e v2 ⟨rfl, hb⟩
  exact b6.out 22 (by omega) v2 hb _ (congrFun mB.out 22).symm
 |clear k_f8_2
  have h52 := ab (show a'.eval (.tmp 52) = .bool tb from VD.out 20 (by omega) (bc.out _ rfl ⟨20, Ground.data⟩ (by simp) rfl))
  have h54 := ab (show a'.eval (.tmp 54) = .bool tb from VD.out 22 (by omega) (bc.out _ rfl ⟨22, Ground.data⟩ (by simp) rfl))
  go_simp
  exact b6.out 23 (by omega) v (Below.refl _ _) _ (congrFun mB.out 23).symm
 |clear k_f8_3
  obtain ⟨p0, p1, p2, p3⟩ := F6.out.keep iu.out (by omega)
  go_simp
  first
  |clear k_f4_0
   exact b6.out 19 (by omega) v (Below.refl _ _) _ (congrFun mB.out 19).symm
  |clear k_f4_1
   exact b6.out 21 (by omega) v (Below.refl _ _) _ (congrFun mB.out 21).symm) : G := h
theorem bf9 (h : G := by
 refine lI rfl rfl rfl (show a'.eval (.tmp 35) = .bool true from VD.out 3 (by omega) (bc.out _ rfl ⟨3, Ground.guard⟩ (by simp) rfl)) ?_
 first
 |clear k_f9_0
  go_simp
  exact b6.out 4 (by omega) v (Below.refl _ _) _ (congrFun mB.out 4).symm
 |clear k_f9_1
  go_simp
  exact b6.out 5 (by omega) v (Below.refl _ _) _ (congrFun mB.out 5).symm
 |clear k_f9_2
  have h36 := ab (show a'.eval (.tmp 36) = .int .i64 pl from VD.out 4 (by omega) (bc.out _ rfl ⟨4, Ground.data⟩ (by simp) rfl))
  have h37 := ab (show a'.eval (.tmp 37) = .int .i64 pl from VD.out 5 (by omega) (bc.out _ rfl ⟨5, Ground.data⟩ (by simp) rfl))
  go_simp
  exact b6.out 6 (by omega) v (Below.refl _ _) _ (congrFun mB.out 6).symm) : G := h
theorem bf10 (h : G := by
 refine lI rfl rfl rfl (show a'.eval (.tmp 40) = .bool true from VD.out 8 (by omega) (bc.out _ rfl ⟨8, Ground.guard⟩ (by simp) rfl)) ?_
 first
 |clear k_f10_0
  go_simp
  exact b6.out 9 (by omega) v (Below.refl _ _) _ (congrFun mB.out 9).symm
 |clear k_f10_1
  go_simp
  exact b6.out 10 (by omega) v (Below.refl _ _) _ (congrFun mB.out 10).symm
 |clear k_f10_2
  have h41 := ab (show a'.eval (.tmp 41) = .int .i64 cd from VD.out 9 (by omega) (bc.out _ rfl ⟨9, Ground.data⟩ (by simp) rfl))
  have h42 := ab (show a'.eval (.tmp 42) = .int .i64 cd from VD.out 10 (by omega) (bc.out _ rfl ⟨10, Ground.data⟩ (by simp) rfl))
  go_simp
  exact b6.out 11 (by omega) v (Below.refl _ _) _ (congrFun mB.out 11).symm) : G := h
theorem bf11 (h : G := by
 clear jw
 simp only [List.getElem?_toArray, List.getElem?_cons_succ, List.getElem?_cons_zero] at y0 y1 y2 y3
 go_wp2
 first
 |clear k_f11_0
  refine bodyPost_ret (DM.out.read Tryz.results26 rfl _ _ _ _) rfl ⟨aq 22 7 ⟨#[]⟩, _, _, rfl, ?_⟩
  exact bf2
 |clear k_f11_1
  refine bodyPost_ret (DM.out.read Tryz.results26 rfl _ _ _ _) rfl ⟨aq 23 1 ⟨#[]⟩, _, _, rfl, ?_⟩
  exact bf2
 |clear k_f11_2
  refine bodyPost_ret (DM.out.read Tryz.results26 rfl _ _ _ _) rfl ⟨aq 24 0 ⟨#[122, 122]⟩, _, _, rfl, ?_⟩
  exact bf2
 |clear k_f11_3
  refine bodyPost_ret (DM.out.read Tryz.results26 rfl _ _ _ _) rfl ⟨aq 24 0 ⟨#[109]⟩, _, _, rfl, ?_⟩
  exact bf2
 |clear k_f11_4
  refine bodyPost_ret (DM.out.read Tryz.results26 rfl _ _ _ _) rfl ⟨bX 25 0 ⟨#[97, 100, 100]⟩ (aq 22 1 ⟨#[]⟩), _, _, rfl, ?_⟩
  exact (iT DM.out eB.out vN.out dF (o6 (pI RM6.out) (by omega) (by omega)) (bB (by omega) (by omega) (by decide) (aJ (by omega) (by omega) (by decide))) (by rw [b9, bm]; exact Nat.le_trans (by decide : _ ≤ 30) (Nat.le_add_left _ _))).more (by omega)
 |clear k_f11_5
  refine bodyPost_ret (DM.out.read Tryz.results26 rfl _ _ _ _) rfl ⟨bX 25 0 ⟨#[115, 104, 111, 119]⟩ (aq 22 1 ⟨#[]⟩), _, _, rfl, ?_⟩
  exact (iT DM.out eB.out vN.out dF (o6 (pI RM8.out) (by omega) (by omega)) (bB (by omega) (by omega) (by decide) (aJ (by omega) (by omega) (by decide))) (by rw [b9, bm]; exact Nat.le_trans (by decide : _ ≤ 30) (Nat.le_add_left _ _))).more (by omega)
 |clear k_f11_6
  refine bodyPost_ret (DM.out.read Tryz.results26 rfl _ _ _ _) rfl ⟨aq 4 0 ⟨#[]⟩, _, _, rfl, ?_⟩
  exact bf2
 |clear k_f11_7
  refine bodyPost_ret (DM.out.read Tryz.results26 rfl _ _ _ _) rfl ⟨aq 17 0 ⟨#[]⟩, _, _, rfl, ?_⟩
  exact bf2
 |clear k_f11_8
  refine bodyPost_ret (DM.out.read Tryz.results26 rfl _ _ _ _) rfl ⟨bX 12 0 ⟨#[]⟩ (aq 22 1 ⟨#[]⟩), _, _, rfl, ?_⟩
  exact (iT DM.out eB.out vN.out dF (o6 (pI RM12.out) (by omega) (by omega)) (bB (by omega) (by omega) (by decide) (aJ (by omega) (by omega) (by decide))) (by rw [b9, bm]; exact Nat.le_trans (by decide : _ ≤ 30) (Nat.le_add_left _ _))).more (by omega)) : G := h
def PRC : Prop := ∀ (sb A : Nat) (w : World), A ≤ 1000000000 → Src sb A w → Calls Tryz.prog 19 #[.pointer (some ⟨sb, 0, none⟩)] w fun e w' => ∃ T a c, e = .returned (T.val (.slice a T.len c)) ∧ Drawn sb (A + 7000000) (fun T => ep T = 0) 1000000 w T (.slice a T.len c) w'
structure Pgm (w : World) (T : Nd) (u : Value) (w' : World) : Prop where
 row : Row w.heap.size w'.heap.size w' T u
 fine : T.Fine
 code : ep T = 0
 cost : T.cost ≤ 1000000
 below : Below w.heap.size w w'
section
open Go Go.RowKit
def RowU (lo hi base : Nat) (w : World) (T : Nd) (u : Value) : Prop :=
 ∀ W : World, w.heap.size ≤ W.heap.size → (∀ k, k < w.heap.size → (lo ≤ k ∧ k < hi) ∨ base ≤ k → W.heap[k]? = w.heap[k]?) → Row lo W.heap.size W T u
theorem RowU.row {lo hi base : Nat} {w : World} {T : Nd} {u : Value} (h : RowU lo hi base w T u) : Row lo w.heap.size w T u := h w lr fun _ _ _ => rfl
theorem Gw.rowU {lo hi base j : Nat} {Ts : Nat → Nd} {us : Nat → Value} {s e : Nat → Nat} {v : Value} {W : World} (h : Gw lo Ts us s e j v W) (cY : ∀ g, v.ownBlock = some g → base ≤ g) (hk : ∀ i, i < j → ∀ k, s i ≤ k → k < e i → (lo ≤ k ∧ k < hi) ∨ base ≤ k) (k n : Int) (nm : ByteArray) : RowU lo hi base W (.mk k n nm j Ts) v := by
 intro V hz hV
 refine (h.keep hz fun q h1 h2 h3 => hV q h1 ?_).row lr k n nm
 rcases h3 with h3 | ⟨i, hi, a, b⟩
 ·exact .inr (cY q h3)
 ·exact hk i hi q a b
structure Spt (sb B lo hi C : Nat) (w : World) (T : Nd) (u : Value) (w' : World) : Prop where
 row : RowU lo hi w.heap.size w' T u
 fine : T.Fine
 cost : T.cost ≤ C
 src : Src sb B w'
 kp : Kp sb w w'
theorem Spt.more {sb B B' lo hi C : Nat} {w : World} {T : Nd} {u : Value} {w' : World} (h : Spt sb B lo hi C w T u w') (hB : B ≤ B') : Spt sb B' lo hi C w T u w' := ⟨h.row, h.fine, h.cost, h.src.mono hB, h.kp⟩
def SPC (T : Nd) : Prop := ∀ (sb A lo hi : Nat) (w : World) (a : Option Addr) (c : Nat), A + 9 * T.size ≤ 1099511627776 → Src sb A w → sb < lo → lo ≤ hi → hi ≤ w.heap.size → T.Fine → T.size ≤ 600 → T.cost ≤ 1000000 → Row lo hi w T (.slice a T.len c) →
 Calls Tryz.prog 26 #[.pointer (some ⟨sb, 0, none⟩), T.val (.slice a T.len c)] w fun e w' => ∃ T' a' c', e = .returned (T'.val (.slice a' T'.len c')) ∧ Spt sb (A + 9 * T.size) lo hi (T.cost + 30) w T' (.slice a' T'.len c') w'
theorem iT {sb A lo hi C : Nat} {w w0 W : World} {T : Nd} {u : Value} (dw : DW sb A w0 W) (hb : Below w.heap.size w w0) (hz : w0.heap.size = w.heap.size + 1) (dF : hi ≤ w.heap.size) (hr : RowU lo hi (w0.heap.size + 1) W T u) (hf : T.Fine) (hc : T.cost ≤ C) : Spt sb A lo hi C w T u (fe W w0.heap.size T.kind T.num T.name u) := by
 obtain ⟨h1, h2⟩ := dw.put4 T.kind T.num T.name u
 refine ⟨fun V hV h => hr V (by rw [fb] at hV; exact hV) fun k hk h3 => ?_, hf, hc, h1, (bG hb _).trans h2 (fun _ _ h => h)⟩
 rw [← eh W w0.heap.size T.kind T.num T.name u k (by omega)]
 exact h k (by rw [fb]; exact hk) (by omega)
structure SpI (sb A lo hi bo : Nat) (T : Nd) (vs : Nat → Value) (a : Option Addr) (c : Nat) (k n : Int) (s : ByteArray) (w0 W : World) : Prop where
 dw : DW sb A w0 W
 out : W.heap[bo]? = some (fS k n s a T.len c)
 gw : Gw lo T.kids vs (fun _ => lo) (fun _ => hi) T.len (.slice a T.len c) W
 bol : w0.heap.size < bo
 ne : (Value.slice a T.len c).ownBlock ≠ some bo
 own : ∀ g, (Value.slice a T.len c).ownBlock = some g → w0.heap.size < g
 low : sb < lo ∧ lo ≤ hi ∧ hi < w0.heap.size
theorem SpI.kp {sb A A' lo hi bo : Nat} {T : Nd} {vs : Nat → Value} {a : Option Addr} {c : Nat} {k n : Int} {s : ByteArray} {w0 W W' : World} (h : SpI sb A lo hi bo T vs a c k n s w0 W) (hs : Src sb A' W') (hk : Kp sb W W') : SpI sb A' lo hi bo T vs a c k n s w0 W' :=
 ⟨h.dw.step hs hk, cm h.out (by have := h.dw.low; have := h.bol; omega) hk, h.gw.kp h.low.1 hk, h.bol, h.ne, h.own, h.low⟩
theorem SpI.calm {sb A lo hi bo : Nat} {T : Nd} {vs : Nat → Value} {a : Option Addr} {c : Nat} {k n : Int} {s : ByteArray} {w0 W W' : World} (h : SpI sb A lo hi bo T vs a c k n s w0 W) (hb : Below W.heap.size W W') : SpI sb A lo hi bo T vs a c k n s w0 W' := h.kp (h.dw.src.calm hb) (bG hb _)
theorem SpI.rowU {sb A lo hi bo : Nat} {T : Nd} {vs : Nat → Value} {a : Option Addr} {c : Nat} {k n : Int} {s : ByteArray} {w0 W : World} (h : SpI sb A lo hi bo T vs a c k n s w0 W) (k' n' : Int) (s' : ByteArray) : RowU lo hi (w0.heap.size + 1) W (.mk k' n' s' T.len T.kids) (.slice a T.len c) :=
 h.gw.rowU (fun g hg => h.own g hg) (fun i hi k h1 h2 => .inl ⟨h1, h2⟩) k' n' s'
theorem SpI.put {sb A lo hi bo : Nat} {T : Nd} {vs : Nat → Value} {a : Option Addr} {c : Nat} {k n : Int} {s : ByteArray} {w0 W : World} (h : SpI sb A lo hi bo T vs a c k n s w0 W) (o : Nat) (x : Value) :
  DW sb A w0 (W.setCell ⟨bo, o, none⟩ x) ∧ Gw lo T.kids vs (fun _ => lo) (fun _ => hi) T.len (.slice a T.len c) (W.setCell ⟨bo, o, none⟩ x) := by
 have h1 := h.bol
 have h2 := h.low
 exact ⟨h.dw.put bo o x (by omega), h.gw.put h.ne fun i _ => .inr (by omega)⟩
theorem SpI.put0 {sb A lo hi bo : Nat} {T : Nd} {vs : Nat → Value} {a : Option Addr} {c : Nat} {k n : Int} {s : ByteArray} {w0 W : World} (h : SpI sb A lo hi bo T vs a c k n s w0 W) (k' : Int) : SpI sb A lo hi bo T vs a c k' n s w0 (W.setCell ⟨bo, 0, none⟩ (.int .i64 k')) :=
 ⟨(h.put 0 _).1, (heap_setCell_same W bo 0 _ 25 (.int .i64 k') h.out).trans rfl, (h.put 0 _).2, h.bol, h.ne, h.own, h.low⟩
theorem SpI.put1 {sb A lo hi bo : Nat} {T : Nd} {vs : Nat → Value} {a : Option Addr} {c : Nat} {k n : Int} {s : ByteArray} {w0 W : World} (h : SpI sb A lo hi bo T vs a c k n s w0 W) (n' : Int) : SpI sb A lo hi bo T vs a c k n' s w0 (W.setCell ⟨bo, 1, none⟩ (.int .i64 n')) :=
 ⟨(h.put 1 _).1, (heap_setCell_same W bo 1 _ 25 (.int .i64 n') h.out).trans rfl, (h.put 1 _).2, h.bol, h.ne, h.own, h.low⟩
theorem SpI.put2 {sb A lo hi bo : Nat} {T : Nd} {vs : Nat → Value} {a : Option Addr} {c : Nat} {k n : Int} {s : ByteArray} {w0 W : World} (h : SpI sb A lo hi bo T vs a c k n s w0 W) (s' : ByteArray) : SpI sb A lo hi bo T vs a c k n s' w0 (W.setCell ⟨bo, 2, none⟩ (.string s')) :=
 ⟨(h.put 2 _).1, (heap_setCell_same W bo 2 _ 25 (.string s') h.out).trans rfl, (h.put 2 _).2, h.bol, h.ne, h.own, h.low⟩
def putL (W : World) (g o : Nat) (k n : Int) (s : ByteArray) (u : Value) : World := (((W.setCell ⟨g, o, none⟩ (.int .i64 k)).setCell ⟨g, o + 1, none⟩ (.int .i64 n)).setCell ⟨g, o + 2, none⟩ (.string s)).setCell ⟨g, o + 3, none⟩ u
theorem AP (W : World) (g o : Nat) (k n : Int) (s : ByteArray) (u : Value) : (putL W g o k n s u).heap.size = W.heap.size := by simp [putL, World.setCell]
theorem pK (W : World) (g o : Nat) (k n : Int) (s : ByteArray) (u : Value) (i : Nat) (h : i ≠ g) : (putL W g o k n s u).heap[i]? = W.heap[i]? := by
 unfold putL
 rw [Below.heap_setCell _ _ _ _ (by show i ≠ g; exact h), Below.heap_setCell _ _ _ _ (by show i ≠ g; exact h), Below.heap_setCell _ _ _ _ (by show i ≠ g; exact h), Below.heap_setCell _ _ _ _ (by show i ≠ g; exact h)]
theorem fa (W : World) (g o o' : Nat) (x : Value) (hx : ∃ y, W.cell? ⟨g, o, none⟩ = some y) : (W.setCell ⟨g, o, none⟩ x).cell? ⟨g, o', none⟩ = if o' = o then some x else W.cell? ⟨g, o', none⟩ := by
 obtain ⟨y, hy⟩ := hx
 split
 ·rename_i h; subst h; exact World.cell?_setCell_same _ _ _ hy
 ·rename_i h; exact World.cell?_setCell_other _ _ _ _ (fun e => h (by cases e; rfl))
theorem AQ (W : World) (g o : Nat) (k n : Int) (s : ByteArray) (u : Value) (hx : ∀ j, j < 4 → ∃ y, W.cell? ⟨g, o + j, none⟩ = some y) (x : Nat) :
  (putL W g o k n s u).cell? ⟨g, x, none⟩ = if x = o + 3 then some u else if x = o + 2 then some (.string s) else if x = o + 1 then some (.int .i64 n) else if x = o then some (.int .i64 k) else W.cell? ⟨g, x, none⟩ := by
 have x0 := hx 0 (by omega)
 have x1 := hx 1 (by omega)
 have x2 := hx 2 (by omega)
 have x3 := hx 3 (by omega)
 rw [Nat.add_zero] at x0
 have s1 : ∃ y, (W.setCell ⟨g, o, none⟩ (.int .i64 k)).cell? ⟨g, o + 1, none⟩ = some y := by rw [fa _ _ _ _ _ x0, if_neg (by omega)]; exact x1
 have s2 : ∃ y, ((W.setCell ⟨g, o, none⟩ (.int .i64 k)).setCell ⟨g, o + 1, none⟩ (.int .i64 n)).cell? ⟨g, o + 2, none⟩ = some y := by rw [fa _ _ _ _ _ s1, if_neg (by omega), fa _ _ _ _ _ x0, if_neg (by omega)]; exact x2
 have s3 : ∃ y, (((W.setCell ⟨g, o, none⟩ (.int .i64 k)).setCell ⟨g, o + 1, none⟩ (.int .i64 n)).setCell ⟨g, o + 2, none⟩ (.string s)).cell? ⟨g, o + 3, none⟩ = some y := by rw [fa _ _ _ _ _ s2, if_neg (by omega), fa _ _ _ _ _ s1, if_neg (by omega), fa _ _ _ _ _ x0, if_neg (by omega)]; exact x3
 unfold putL
 rw [fa _ _ _ _ _ s3, fa _ _ _ _ _ s2, fa _ _ _ _ _ s1, fa _ _ _ _ _ x0]
theorem DW.putL {sb A : Nat} {w W : World} (h : DW sb A w W) {g o : Nat} (hg : w.heap.size + 1 ≤ g) (k n : Int) (s : ByteArray) (u : Value) : DW sb A w (putL W g o k n s u) := (((h.put g _ _ hg).put g _ _ hg).put g _ _ hg).put g _ _ hg
theorem Gw.cells {B j g c : Nat} {Ts : Nat → Nd} {us : Nat → Value} {s e : Nat → Nat} {W : World} (h : Gw B Ts us s e j (.slice (some ⟨g, 0, none⟩) j c) W) {i : Nat} (hi : i < j) : W.cell? ⟨g, i * 4, none⟩ = some (.int .i64 (Ts i).kind) ∧ W.cell? ⟨g, i * 4 + 1, none⟩ = some (.int .i64 (Ts i).num) ∧ W.cell? ⟨g, i * 4 + 2, none⟩ = some (.string (Ts i).name) ∧ W.cell? ⟨g, i * 4 + 3, none⟩ = some (us i) := by
 have hc := fun o (u : Value) (hu : (cR Ts us j)[o]? = some u) => (iD g o ▸ h.own.cells (g := g) rfl o u hu : W.cell? ⟨g, o, none⟩ = some u)
 obtain ⟨f0, f1, f2, f3⟩ := jW Ts us hi
 exact ⟨hc _ _ f0, hc _ _ f1, hc _ _ f2, hc _ _ f3⟩
theorem Gw.caps {B j g c : Nat} {Ts : Nat → Nd} {us : Nat → Value} {s e : Nat → Nat} {W : World} (h : Gw B Ts us s e j (.slice (some ⟨g, 0, none⟩) j c) W) : j ≤ c ∧ c ≤ 9223372036854775807 ∧ B ≤ g ∧ g < W.heap.size := by
 rcases h.own.2 with ⟨e1, _⟩ | ⟨g', cap, cur, e1, h2, h3, h4, h5, _⟩
 ·cases e1
 ·injection e1 with e1 _ e2
  injection e1 with e1
  injection e1 with e1
  subst e1 e2
  unfold maxLen at h5
  exact ⟨h4, by omega, h2, (Array.getElem?_eq_some_iff.1 h3).1⟩
theorem Gw.frozen {B j g c : Nat} {Ts : Nat → Nd} {us : Nat → Value} {s e : Nat → Nat} {W : World} (h : Gw B Ts us s e j (.slice (some ⟨g, 0, none⟩) j c) W) (o : Nat) : W.frozen? ⟨g, o, none⟩ = false := by
 rcases h.own.2 with ⟨e1, _⟩ | ⟨g', cap, cur, e1, h2, h3, h4, h5, _⟩
 ·cases e1
 ·injection e1 with e1 _ e2
  injection e1 with e1
  injection e1 with e1
  subst e1
  exact frozen_of_row _ _ _ _ _ h3
theorem L9 {sb A lo hi bo g c : Nat} {T T' : Nd} {vs : Nat → Value} {k n : Int} {s : ByteArray} {w0 W1 W2 : World} {u' : Value} {i : Nat} (h : SpI sb A lo hi bo T vs (some ⟨g, 0, none⟩) c k n s w0 W1) (hk : Kp sb W1 W2) (hr : RowU lo hi W1.heap.size W2 T' u') (fO : i < T.len) (k' n' : Int) (s' : ByteArray) :
    RowU lo hi (w0.heap.size + 1) (putL W2 g (i * 4) T'.kind T'.num T'.name u') (.mk k' n' s' T.len (j4 T.kids i T')) (.slice (some ⟨g, 0, none⟩) T.len c) := by
  intro V hz hV
  rw [AP] at hz hV
  have mM := h.low
  have TG := h.dw.low
  have g2 := h.gw.kp (sb := sb) mM.1 hk
  obtain ⟨c1, c2, c3, c4⟩ := g2.caps
  obtain ⟨_, _, _, d4⟩ := h.gw.caps
  have dG := h.own g rfl
  have hdz := h.dw.size
  have b8 := hk.size
  have bM : ∀ x, V.cell? ⟨g, x, none⟩ = (putL W2 g (i * 4) T'.kind T'.num T'.name u').cell? ⟨g, x, none⟩ := fun x => World.cell?_of_block (a := ⟨g, x, none⟩) (hV g c4 (.inr (by omega)))
  obtain ⟨y0, y1, y2, y3⟩ := g2.cells fO
  have ln := AQ W2 g (i * 4) T'.kind T'.num T'.name u' (fun j hj => by
    rcases (by omega : j = 0 ∨ j = 1 ∨ j = 2 ∨ j = 3) with rfl | rfl | rfl | rfl
    · exact ⟨_, y0⟩
    · exact ⟨_, y1⟩
    · exact ⟨_, y2⟩
    · exact ⟨_, y3⟩)
  have fU : ∀ q, q < W2.heap.size → (lo ≤ q ∧ q < hi) ∨ W1.heap.size ≤ q → V.heap[q]? = W2.heap[q]? := fun q h1 h2 => by
    rw [hV q h1 (by omega)]
    exact pK _ _ _ _ _ _ _ _ (by omega)
  refine gA (by omega) (by omega) c1 (by omega) fun j hj => ?_
  by_cases e : j = i
  · subst e
    refine ⟨u', ?_, ?_, ?_, ?_, ?_⟩
    · rw [bM, ln, if_neg (by omega), if_neg (by omega), if_neg (by omega), if_pos rfl, cD]
    · rw [bM, ln, if_neg (by omega), if_neg (by omega), if_pos rfl, cD]
    · rw [bM, ln, if_neg (by omega), if_pos rfl, cD]
    · rw [bM, ln, if_pos rfl]
    · rw [cD]; exact hr V hz fU
  · obtain ⟨z0, z1, z2, z3⟩ := g2.cells hj
    refine ⟨vs j, ?_, ?_, ?_, ?_, ?_⟩
    · rw [bM, ln, if_neg (by omega), if_neg (by omega), if_neg (by omega), if_neg (by omega), cW _ _ e]; exact z0
    · rw [bM, ln, if_neg (by omega), if_neg (by omega), if_neg (by omega), if_neg (by omega), cW _ _ e]; exact z1
    · rw [bM, ln, if_neg (by omega), if_neg (by omega), if_neg (by omega), if_neg (by omega), cW _ _ e]; exact z2
    · rw [bM, ln, if_neg (by omega), if_neg (by omega), if_neg (by omega), if_neg (by omega)]; exact z3
    · rw [cW _ _ e]
      exact dc lr (by omega) (fun b o h1 h2 => World.cell?_of_block (a := ⟨b, o, none⟩) (fU b (by omega) (.inl ⟨h1, h2⟩))) (g2.kid j hj).1
theorem Gw.less {B j g c : Nat} {Ts : Nat → Nd} {us : Nat → Value} {s e : Nat → Nat} {W : World} (h : Gw B Ts us s e (j + 1) (.slice (some ⟨g, 0, none⟩) (j + 1) c) W) : Gw B Ts us s e j (.slice (some ⟨g, 0, none⟩) j c) W := by
 refine ⟨⟨fF _ _ _, ?_⟩, fun i hi => h.kid i (by omega), fun i hi g' hg => h.apart i (by omega) g' hg⟩
 rcases h.own.2 with ⟨e1, _⟩ | ⟨g', cap, cur, e1, h2, h3, h4, h5, h6, h7⟩
 ·cases e1
 ·injection e1 with e1 _ e2
  injection e1 with e1
  injection e1 with e1
  subst e1 e2
  refine .inr ⟨g, c, cur, rfl, h2, h3, by omega, h5, h6, ?_⟩
  have h8 := congrArg (List.take (j * 4)) h7
  rw [List.take_take, Nat.min_eq_left (by omega)] at h8
  rw [h8]
  simp only [cR]
  rw [List.take_append_of_le_length (by rw [fF]; omega), List.take_of_length_le (by rw [fF]; omega)]
theorem Hj (f g : Nat → Nat) (d : Nat) {i n : Nat} (hi : i < n) (he : ∀ j, j ≠ i → g j = f j) (hd : g i ≤ f i + d) : ar g n ≤ ar f n + d := by
 have h0 : ∀ m, m ≤ i → ar g m = ar f m := by
  intro m
  induction m with
  |zero => intro _; rfl
  |succ m ih => intro hm; simp only [ar]; rw [ih (by omega), he m (by omega)]
 have h1 : ∀ m, i < m → ar g m ≤ ar f m + d := by
  intro m
  induction m with
  |zero => intro h; omega
  |succ m ih =>
   intro hm
   simp only [ar]
   by_cases e : m = i
   ·subst e; have := h0 m lr; omega
   ·have := ih (by omega); have := he m e; omega
 exact h1 n hi
theorem AM (T : Nd) {i : Nat} (h : i < T.len) : (T.kids i).size + 1 ≤ T.size := by
 rw [T.size_eq]; have := jO (fun i => (T.kids i).size) h; omega
end
section
open Go Go.RowKit
def AVS (lo hi base b : Nat) (T : Nd) (w : World) (x : Value) : Prop := ∃ (us : Nat → Value) (s e : Nat → Nat) (a : Option Addr) (c : Nat), x = .slice a (T.len + 1) c ∧ Gw lo (cJ T.kids T.len (bX 0 0 ⟨#[]⟩ (aq 22 1 ⟨#[]⟩)).kids) us s e (T.len + 1) (.slice a (T.len + 1) c) w ∧ (∀ g, (Value.slice a (T.len + 1) c).ownBlock = some g → base ≤ g) ∧ (Value.slice a (T.len + 1) c).ownBlock ≠ some b ∧ ∀ i, i < T.len + 1 → (b < s i ∨ e i ≤ b) ∧ ∀ k, s i ≤ k → k < e i → (lo ≤ k ∧ k < hi) ∨ base ≤ k
theorem AVS.put {lo hi base b o : Nat} {T : Nd} {w : World} {x y : Value} (h : AVS lo hi base b T w x) : AVS lo hi base b T (w.setCell ⟨b, o, none⟩ y) x := by
 obtain ⟨us, s, e, a, c, h1, h2, h3, h4, h5⟩ := h
 exact ⟨us, s, e, a, c, h1, h2.put h4 fun i hi => (h5 i hi).1, h3, h4, h5⟩
theorem o6 {lo hi base Cc : Nat} {w : World} {T : Nd} {u : Value} (h : Row Cc w.heap.size w T u) (hb : base ≤ Cc) (hl : lo ≤ Cc) : RowU lo hi base w T u := fun V hz hV =>
 dc hl hz (fun b o h1 h2 => World.cell?_of_block (a := ⟨b, o, none⟩) (hV b h2 (.inr (by omega)))) h
def Ki (sb A lo hi base b : Nat) (T : Nd) (w0 v : World) : Prop := DW sb A w0 v ∧ ∃ (a : Option Addr) (c : Nat), v.heap[b]? = some (fS T.kind T.num T.name a (T.len + 1) c) ∧ RowU lo hi base v (.mk T.kind T.num T.name (T.len + 1) (cJ T.kids T.len (bX 0 0 ⟨#[]⟩ (aq 22 1 ⟨#[]⟩)).kids)) (.slice a (T.len + 1) c)
theorem ki {α : Type} (f g : Nat → α) : cJ f 0 g = g := by funext i; unfold cJ; rw [if_neg (Nat.not_lt_zero _)]; rfl
theorem uF (T : Nd) : T.len + 1 ≤ T.size := by
 rw [T.size_eq]
 have : ∀ n, n ≤ ar (fun i => (T.kids i).size) n := by
  intro n
  induction n with
  |zero => exact Nat.zero_le _
  |succ n ih => simp only [ar]; have := (T.kids n).size_eq; omega
 have := this T.len
 omega
theorem AX (T : Nd) : (Nd.mk T.kind T.num T.name (T.len + 1) (cJ T.kids T.len (bX 0 0 ⟨#[]⟩ (aq 22 1 ⟨#[]⟩)).kids)).cost ≤ T.cost + 30 := by
 rw [T.cost_eq]
 show T.name.size + ((T.len + 1) + ar (fun i => (cJ T.kids T.len (bX 0 0 ⟨#[]⟩ (aq 22 1 ⟨#[]⟩)).kids i).cost) (T.len + 1)) ≤ _
 simp only [ar]
 have e : ∀ m, m ≤ T.len → ar (fun i => (cJ T.kids T.len (bX 0 0 ⟨#[]⟩ (aq 22 1 ⟨#[]⟩)).kids i).cost) m = ar (fun i => (T.kids i).cost) m := by
  intro m
  induction m with
  |zero => intro _; rfl
  |succ m ih => intro h; simp only [ar]; rw [ih (by omega), bw _ _ (by omega)]
 rw [e T.len lr, bW _ _ lr]
 have : ((bX 0 0 ⟨#[]⟩ (aq 22 1 ⟨#[]⟩)).kids (T.len - T.len)).cost = 0 := by rw [Nat.sub_self]; decide
 omega
theorem AW {T : Nd} (h : T.Fine) (hl : T.len ≤ 1000000) : (Nd.mk T.kind T.num T.name (T.len + 1) (cJ T.kids T.len (bX 0 0 ⟨#[]⟩ (aq 22 1 ⟨#[]⟩)).kids)).Fine :=
 ⟨(Nd.fine_nums h).1, (Nd.fine_nums h).2, Nd.fine_name h, by omega, fun i hi => by
  by_cases e : i < T.len
  ·rw [bw _ _ e]; exact Nd.fine_kid h e
  ·rw [bW _ _ (by omega)]; exact aJ (by omega) (by omega) (by decide)⟩
theorem lX {T : Nd} (h : T.Fine) {k n : Int} {s : ByteArray} (hk : -9223372036854775808 ≤ k ∧ k ≤ 9223372036854775807) (hn : -9223372036854775808 ≤ n ∧ n ≤ 9223372036854775807) (hs : s.size ≤ 9223372036854775807) : (Nd.mk k n s T.len T.kids).Fine := ⟨hk, hn, hs, Nd.fine_len h, fun i hi => Nd.fine_kid h hi⟩
theorem lY (T : Nd) {k n : Int} {s : ByteArray} (hs : s.size ≤ T.name.size + 30) : (Nd.mk k n s T.len T.kids).cost ≤ T.cost + 30 := by
 rw [T.cost_eq]
 show s.size + (T.len + ar (fun i => (T.kids i).cost) T.len) ≤ _
 omega
theorem A4 {T : Nd} (h : T.Fine) {l : Nat} (hl : l ≤ T.len) : (Nd.mk T.kind T.num T.name l T.kids).Fine := ⟨(Nd.fine_nums h).1, (Nd.fine_nums h).2, Nd.fine_name h, Nat.le_trans hl (Nd.fine_len h), fun i hi => Nd.fine_kid h (by omega)⟩
theorem A5 (T : Nd) {l : Nat} (hl : l ≤ T.len) : (Nd.mk T.kind T.num T.name l T.kids).cost ≤ T.cost + 30 := by
 rw [T.cost_eq]
 have := uh (fun i => (T.kids i).cost) hl
 show T.name.size + (l + ar (fun i => (T.kids i).cost) l) ≤ _
 omega
theorem CJ {T T' : Nd} (h : T.Fine) (h' : T'.Fine) (i : Nat) : (Nd.mk T.kind T.num T.name T.len (j4 T.kids i T')).Fine := ⟨(Nd.fine_nums h).1, (Nd.fine_nums h).2, Nd.fine_name h, Nd.fine_len h, fun j hj => by
  by_cases e : j = i
  ·subst e; rw [cD]; exact h'
  ·rw [cW _ _ e]; exact Nd.fine_kid h hj⟩
theorem CL {T T' : Nd} {i : Nat} (hi : i < T.len) (hc : T'.cost ≤ (T.kids i).cost + 30) : (Nd.mk T.kind T.num T.name T.len (j4 T.kids i T')).cost ≤ T.cost + 30 := by
 rw [T.cost_eq]
 show T.name.size + (T.len + ar (fun j => (j4 T.kids i T' j).cost) T.len) ≤ _
 have := Hj (fun j => (T.kids j).cost) (fun j => (j4 T.kids i T' j).cost) 30 hi (fun j hj => by show (j4 T.kids i T' j).cost = _; rw [cW _ _ hj]) (by show (j4 T.kids i T' i).cost ≤ _; rw [cD]; exact hc)
 omega
def qx (b rl lo hi base : Nat) (ka : Option Addr) (T : Nd) (kc : Nat) (i : Nat) (w : World) (x : Value) : Prop := match i with
 |0 => x = .pointer (some ⟨b, 3, none⟩)
 |1 => x = .slice ka T.len kc
 |2 => x = .agg #[.int .i64 22, .int .i64 1, .string ⟨#[]⟩, .slice none 0 0]
 |3 => LV rl (fun T => T = bX 0 0 ⟨#[]⟩ (aq 22 1 ⟨#[]⟩)) w x
 |4 => AVS lo hi base b T w x
 |5 => x = .pointer (some ⟨b, 3, none⟩)
 |_ => True
theorem tK {b rl lo hi base : Nat} {ka : Option Addr} {T : Nd} {kc : Nat} {l : Array Bool} {v v' : World} (h : Wn rl v v') (bD : l.getD 4 false = false) (aM : l.getD 6 false = false) : ∀ jj x, l.getD jj false = true → qx b rl lo hi base ka T kc jj v x → qx b rl lo hi base ka T kc jj v' x := by
 intro jj x hl hx
 match jj, hx with
 |0, hx => exact hx
 |1, hx => exact hx
 |2, hx => exact hx
 |3, hx => exact LV.stable h hx
 |4, _ => rw [bD] at hl; cases hl
 |5, hx => exact hx
 |6, _ => rw [aM] at hl; cases hl
 |(k + 7), _ => exact trivial
theorem JV {b rl lo hi base : Nat} {ka : Option Addr} {T : Nd} {kc : Nat} {o : Nat} {y : Value} {v : World} (hb : b < rl) : ∀ jj x, qx b rl lo hi base ka T kc jj v x → qx b rl lo hi base ka T kc jj (v.setCell ⟨b, o, none⟩ y) x := by
 intro jj x hx
 match jj, hx with
 |0, hx => exact hx
 |1, hx => exact hx
 |2, hx => exact hx
 |3, hx => exact LV.stable (Wn.of_set hb) hx
 |4, hx => exact AVS.put hx
 |5, hx => exact hx
 |6, hx => exact hx
 |(k + 7), _ => exact trivial
def rq (i : Nat) : Nat := [83, 84, 85, 86, 87, 88, 1006].getD i 2000
theorem F5 (i j : Nat) (hi : i < 7) (hj : j < 7) (h : rq i = rq j) : i = j := by
 have : ((List.range 7).all fun i => (List.range 7).all fun j => rq i != rq j || i == j) = true := by decide
 exact bf1
end
section
open Go Go.RowKit
theorem pI {lo hi : Nat} {w : World} {k n k' n' : Int} {s s' : ByteArray} {A : Nd} {v : Value} (h : Row lo hi w (bX k n s A) v) : Row lo hi w (bX k' n' s' A) v := h
theorem rC (T : Nd) (ih : ∀ i, i < T.len → SPC (T.kids i)) : SPC T := by
 intro sb A lo hi w au cu hA h P7 Bl dF hf hsz6 hc hr
 have th := uF T
 obtain ⟨W1, vg⟩ : ∃ W, w.alloc (.cells #[.int .i64 T.kind, .int .i64 T.num, .string T.name, .slice au T.len cu] 25) = W := ⟨_, rfl⟩
 have sB := aa vg
 have eT : W1.heap.size = w.heap.size + 1 := by rw [← vg]; simp
 have vN := aa eT
 have hb1 : Below w.heap.size w W1 := by rw [← vg]; exact bA
 have eB := aa hb1
 have EP : W1.heap[w.heap.size]? = some (fS T.kind T.num T.name au T.len cu) := by rw [← vg]; exact heap_alloc_new w _
 have HD := DW.start (h.calm hb1)
 have fN := ah hb1 dF hr
 have hsw : sb < w.heap.size := h.lt
 obtain ⟨W2, EW⟩ : ∃ W, W1.alloc dL = W := ⟨_, rfl⟩
 have ed : W2.heap.size = W1.heap.size + 1 := by rw [← EW]; simp
 have HZ2 := aa ed
 have ba : Below W1.heap.size W1 W2 := by rw [← EW]; exact bA
 have Qu := aa EW
 rw [EW] at HD
 have jk := ah ba (by omega) fN
 have Bq := bE EP ba
 have cZ := bO W2 (.cells #[] 25)
 have wa := ah cZ (by omega) jk
 have TO := bE Bq cZ
 have oG : (W2.alloc (.cells #[] 25)).ownsRow lo 25 4 (.slice (some ⟨W2.heap.size, 0, none⟩) 0 0) 0 [] := World.ownsRow_made (base := lo) (e := 25) (size := 4) W2 #[] 0 (by omega) (by unfold maxLen; omega) (by simp)
 obtain ⟨a, c, W4, vs, ei, fz, aX, eF⟩ := gH (Gw.start (fun _ => .nil) (fun _ => undef) (fun _ => lo) (fun _ => hi) oG) wa (by simp; omega) lr Bl (by simp; omega) (fun g hg => .inr (by simp [Value.ownBlock] at hg; omega)) (by omega)
 rw [ki, ki, ki, ki, Nat.zero_add] at fz
 rw [Nat.zero_add] at ei eF
 have eW := aa ((HD.calm cZ).grown aX (fun k hk => by simp [Value.ownBlock] at hk; omega))
 have KL : W2.heap.size + 1 ≤ W4.heap.size := by have := aX.size; simpa using this
 have Ys : Hid (W4.heap[w.heap.size]? = some (fS T.kind T.num T.name au T.len cu)) := (aX.block w.heap.size (by simp; omega) (by simp [Value.ownBlock]; omega)).trans TO
 have QD := aa fz
 have Qy : Hid (∀ g, (Value.slice a T.len c).ownBlock = some g → W2.heap.size ≤ g) := fun g hg => by
  rcases eF with e | ⟨k, e, hk⟩
  ·rw [hg] at e; simp [Value.ownBlock] at e; omega
  ·rw [hg] at e; obtain rfl := Option.some.inj e; simp at hk; omega
 have nF := aa ei
 obtain ⟨x0, x1, x2, x3, xf⟩ := ax Bq
 have qx3 := ld x3
 have hz1a : w.heap.size + 1 ≤ W1.heap.size := Nat.le_of_eq eT.symm
 have hz1b : W1.heap.size ≤ w.heap.size + 1 := Nat.le_of_eq eT
 have hz2a : W1.heap.size + 1 ≤ W2.heap.size := Nat.le_of_eq ed.symm
 have S3 : w.heap.size ≠ sb := by omega
 clear vg EW eT ed hb1 ba cZ h hr fN jk wa EP Bq TO HD oG fz aX eF ei x0 x1 x2 xf
 unfold Nd.val
 unfold dL at *
 go_enter Tryz.func26, Tryz.ntmps26
 go_upto_region 1 with fail
 rw [show (w.alloc (Obj.cells #[.int .i64 T.kind, .int .i64 T.num, .string T.name, .slice au T.len cu] 25)) = W1 from sB.out, ← vN.out]
 rw [Qu.out]
 clear sB Qu
 go_upto_region 2 with (at_builtin; refine dW _ rfl _ _ 23 rfl _ _ _ _ rfl rfl nF.out ?_)
 clear nF qx3 x3
 obtain ⟨x0, x1, x2, x3, xf⟩ := ax Ys.out
 go_wp2_with fail
 refine (bU _ _ _ _ _ _ _).mono ?_
 rintro e w5 ⟨rfl, qY⟩
 have PY := qY.size
 clear x0 x1 x2 x3 xf
 obtain ⟨bo, xM⟩ : ∃ n, w5.heap.size = n := ⟨_, rfl⟩
 have pr := aa xM
 have oO : Hid (SpI sb A lo hi bo T vs a c T.kind T.num T.name W1 (w5.alloc (fS T.kind T.num T.name a T.len c))) := by
  have eV := bO w5 (fS T.kind T.num T.name a T.len c)
  have oU := qY.trans (eV.mono qY.size)
  refine ⟨eW.out.calm oU, by rw [← xM]; exact heap_alloc_new w5 _, QD.out.calm oU, by omega, fun e => ?_, fun g hg => by have := Qy.out g hg; omega, P7, Bl, by omega⟩
  have := (QD.out.own.lt bo e).2
  omega
 obtain ⟨W6, Gh⟩ : ∃ W, w5.alloc (fS T.kind T.num T.name a T.len c) = W := ⟨_, rfl⟩
 have HW6 := aa Gh
 rw [Gh] at oO
 clear Gh qY xM QD Qy eW Ys
 go_upto_region 3 with fail
 rw [show (w5.alloc (Obj.cells #[.int .i64 T.kind, .int .i64 T.num, .string T.name, .slice a T.len c] 25)) = W6 from HW6.out, pr.out]
 clear HW6 pr
 by_cases h0 : T.len = 0
 ·have Ui : ¬ (0 : Int) < (T.len : Int) := by omega
  clear h0
  obtain ⟨B, hB⟩ : ∃ B, A = B := ⟨_, rfl⟩
  have hBA : B ≤ A + 3 := by omega
  rw [hB] at oO
  clear hB
  exact bf0
 ·have Ui : (0 : Int) < (T.len : Int) := by omega
  go_wp2_with fail
  refine (ks sb _ 5 W6 (by omega) (by omega) oO.out.dw.src).mono ?_
  rintro e W6b ⟨t, rfl, hs, hk⟩
  have X8 := aa (oO.out.kp hs hk)
  clear hs hk oO
  rename World => W6
  have oO := X8
  clear X8
  cases t
  ·skip
   have Cn : (0 : Int) < (T.len : Int) := by omega
   go_wp2_with fail
   refine (cK sb _ T.len W6 (by omega) (by omega) oO.out.dw.src).mono ?_
   rintro e W7 ⟨r, hr, rfl, hs, hk⟩
   have gT := aa (oO.out.kp hs hk)
   have Iu : r < T.len := by omega
   have hri : (r : Int) < (T.len : Int) := by omega
   clear hs hk oO
   obtain ⟨g, rfl⟩ : ∃ g, a = some ⟨g, 0, none⟩ := by
    rcases gT.out.gw.own.2 with ⟨_, e⟩ | ⟨g, cap, cur, e, _⟩
    ·exact absurd e h0
    ·injection e with e _ _; exact ⟨g, e⟩
   have aV := (gT.out.gw.kid r Iu).1
   obtain ⟨b, d, Gf⟩ := be aV
   rw [Gf] at aV
   obtain ⟨y0, y1, y2, y3⟩ := gT.out.gw.cells Iu
   rw [Gf] at y3
   obtain ⟨c1, c2, c3, c4⟩ := gT.out.gw.caps
   have dG := gT.out.own g rfl
   have lu := gT.out.bol
   have hlw := gT.out.low
   have hds := gT.out.dw.size
   have TG := gT.out.dw.low
   have ND := (Array.getElem?_eq_some_iff.1 gT.out.out).1
   have dE : g ≠ bo := fun e => gT.out.ne (by rw [e]; rfl)
   have hskid := AM T Iu
   have hckid := T.cost_kid Iu
   have IHR := aa (ih r Iu sb (A + 3 + 3) lo hi W7 b d (by omega) gT.out.dw.src P7 Bl (by omega) (Nd.fine_kid hf Iu) (by omega) (by omega) aV)
   clear aV Gf
   unfold Nd.val at IHR
   go_wp2_with fail
   refine IHR.out.mono ?_
   rintro e W8 ⟨T', a', c', rfl, te⟩
   have X7 := aa te
   have vQ := aa (gT.out.kp te.src te.kp)
   have hz8 := te.kp.size
   clear te y0 y1 y2 y3 IHR
   obtain ⟨y0, y1, y2, y3⟩ := vQ.out.gw.cells Iu
   have yf := vQ.out.gw.frozen
   have Ya := aa (L9 gT.out X7.out.kp X7.out.row Iu T.kind T.num T.name)
   have tV := aa (vQ.out.dw.putL (g := g) (o := r * 4) (by omega) T'.kind T'.num T'.name (.slice a' T'.len c'))
   have pr : Hid ((putL W8 g (r * 4) T'.kind T'.num T'.name (.slice a' T'.len c')).heap[bo]? = some (fS T.kind T.num T.name (some ⟨g, 0, none⟩) T.len c)) := (pK _ _ _ _ _ _ _ _ (Ne.symm dE)).trans vQ.out.out
   have wj := aa (CL Iu X7.out.cost)
   have wk := aa (CJ hf X7.out.fine r)
   clear gT
   go_upto_region 6 with fail
   obtain ⟨W9, Cl⟩ : ∃ W, putL W8 g (r * 4) T'.kind T'.num T'.name (.slice a' T'.len c') = W := ⟨_, rfl⟩
   rw [Cl] at Ya tV pr
   unfold putL at Cl
   rw [Cl]
   clear Cl vQ X7 y0 y1 y2 y3 yf
   obtain ⟨m0, m1, m2, m3, mf⟩ := ax pr.out
   obtain ⟨f0, f1, f2, f3, Qn⟩ := tV.out.cells
   go_wp2
   refine bodyPost_ret (tV.out.read Tryz.results26 rfl _ _ _ _) rfl ⟨.mk T.kind T.num T.name T.len (j4 T.kids r T'), some ⟨g, 0, none⟩, c, rfl, ?_⟩
   exact (iT tV.out eB.out vN.out dF Ya.out wk.out wj.out).more (by omega)
  ·obtain ⟨B, hB⟩ : ∃ B, A + 3 = B := ⟨_, rfl⟩
   have hBA : B ≤ A + 3 := by omega
   rw [hB] at oO
   clear hB h0
   exact bf0
theorem wO (T : Nd) : SPC T := by
 induction T with
 |nil => exact rC .nil fun i hi => absurd hi (Nat.not_lt_zero _)
 |mk k n s len kids ih => exact rC (.mk k n s len kids) fun i _ => ih i
end
def Nz {α : Type} (r : CR α) : Prop := ∀ e, r = .error e → e.1 ≠ 0
theorem Nz.ok {α : Type} (a : α) : Nz (.ok a : CR α) := fun e h => by cases h
theorem Nz.err {α : Type} {c : Int} {n : Nat} (h : c ≠ 0) : Nz (.error (c, n) : CR α) := fun e he => by cases he; exact h
theorem Nz.bind {α β : Type} {r : CR α} {f : α → CR β} (h : Nz r) (hf : ∀ a, Nz (f a)) : Nz (CR.bind r f) := by
 cases r with
 |error e => exact fun e' he => h e' (by cases he; rfl)
 |ok a => exact hf a
theorem Nz.forN {σ : Type} {f : Nat → σ → CR σ} (h : ∀ i s, Nz (f i s)) : ∀ n s, Nz (forN f n s)
 |0, s => Nz.ok s
 |n + 1, s => Nz.bind (Nz.forN h n s) (h n)
theorem Nz.ite {α : Type} {c : Prop} [Decidable c] {a b : CR α} (ha : Nz a) (hb : Nz b) : Nz (if c then a else b) := by by_cases h : c <;> simp only [h, if_true, if_false] <;> assumption
theorem nk {m : qI} (h : ∀ s, Nz (m s)) (s : CS) : Nz (cN m s) := Nz.bind (h s) fun r => Nz.ite (Nz.err (by decide)) (Nz.ok _)
theorem dZ {m : qI} (h : ∀ s, Nz (m s)) (t : Int) (s : CS) : Nz (aE m t s) := Nz.bind (nk h s) fun r => Nz.ite (Nz.ok _) (Nz.err (by decide))
theorem H8 (F : Nd) (k : Int) (name : ByteArray) (len : Nat) (kids : Nat → qI) (h : ∀ i s, Nz (kids i s)) (s : CS) (a : Nat) : Nz (bI F k name len kids s a) := by
 unfold bI
 refine Nz.ite (Nz.ok _) (Nz.ite (Nz.ok _) (Nz.ite (Nz.ite (Nz.err (by decide)) (Nz.ok _)) (Nz.ite ?_ (Nz.ite (Nz.bind (Nz.forN (fun i => dZ (h i) 1) _ _) fun _ => Nz.ok _) (Nz.ite (Nz.bind (dZ (h 0) _ _) fun _ => Nz.ok _) (Nz.ite (Nz.bind (dZ (h 0) _ _) fun _ => Nz.ok _) (Nz.ite (Nz.bind (nk (h 0) _) fun r => Nz.bind (dZ (h 1) _ _) fun _ => Nz.ok _) (Nz.bind (dZ (h 0) _ _) fun _ => Nz.bind (dZ (h 1) _ _) fun _ => Nz.ok _))))))))
 cases findF F name with
 |none => exact Nz.err (by decide)
 |some j => exact Nz.ite (Nz.bind (Nz.forN (fun i => dZ (h i) _) _ _) fun _ => Nz.ok _) (Nz.err (by decide))
theorem DF (F : Nd) : ∀ (T : Nd) (s : CS), Nz (bP F T s)
 |.nil, s => Nz.ok _
 |.mk k n name len kids, s => by
  show Nz (NZ F k name len (fun i => bP F (kids i)) s)
  exact Nz.bind (H8 F k name len _ (fun i => DF F (kids i)) _ _) fun _ => Nz.ok _
theorem rK {l : List (ByteArray × Int)} {m : CS → CR CS} (h : ∀ s, Nz (m s)) (s : CS) : Nz (within l m s) := Nz.bind (h _) fun _ => Nz.ok _
theorem yU (len : Nat) (kids : Nat → Lz) (h : ∀ i cx s, Nz (kids i cx s)) (cx : Cx) (s : CS) : Nz (oA len kids cx s) := Nz.forN (fun i => h i cx) _ _
theorem Rv (F : Nd) (k : Int) (name : ByteArray) (len : Nat) (num : Nat → Int) (ex : Nat → qI) (kids : Nat → Mn) (he : ∀ i s, Nz (ex i s)) (h1 : ∀ i cx s, Nz ((kids i).st cx s)) (h3 : ∀ i b cx s, Nz ((kids i).cs b cx s)) (cx : Cx) (s : CS) : Nz (stM F k name len num ex kids cx s) := by
 unfold stM
 refine Nz.ite (rK (fun s => yU _ _ h1 _ _) _) (Nz.ite (Nz.bind (nk (he 0) _) fun _ => Nz.ite (Nz.err (by decide)) (Nz.ok _)) (Nz.ite (Nz.ite (Nz.err (by decide)) (dZ (he 0) _ _)) (Nz.ite (Nz.ite (Nz.err (by decide)) (Nz.ite (Nz.ok _) (Nz.err (by decide)))) (Nz.ite (Nz.bind (dZ (he 0) _ _) fun _ => dZ (he 1) _ _) (Nz.ite (Nz.bind (he 0 _) fun _ => Nz.ok _) (Nz.ite (Nz.bind (dZ (he 0) _ _) fun _ => Nz.forN (fun i => h1 (i + 1) cx) _ _) ?_))))))
 refine Nz.ite (Nz.bind (Nz.ite (dZ (he 0) _ _) (Nz.ok _)) fun _ => h1 _ _ _) (Nz.ite (Nz.ite (Nz.ite (dZ (he 0) _ _) (Nz.ok _)) (Nz.err (by decide))) (Nz.ite (Nz.forN (fun i => h3 i _ _) _ _) (Nz.ite (Nz.ite (Nz.err (by decide)) (Nz.ok _)) (Nz.ite (Nz.ite (Nz.err (by decide)) (Nz.ok _)) (Nz.ite (dZ (he 0) _ _) (Nz.ite (Nz.bind (nk (he 0) _) fun _ => Nz.ite (Nz.err (by decide)) (Nz.ok _)) (Nz.ite (dZ (he 0) _ _) (Nz.ok _))))))))
theorem Rw (n : Int) (name : ByteArray) (len : Nat) (ex : Nat → qI) (kids : Nat → Mn) (he : ∀ i s, Nz (ex i s)) (h2 : ∀ i cx s, Nz ((kids i).sts cx s)) (b : Bool) (cx : Cx) (s : CS) : Nz (Gj n name len ex kids b cx s) := by
 unfold Gj
 exact Nz.ite (Nz.err (by decide)) (Nz.bind (Nz.ite (dZ (he 0) _ _) (Nz.ok _)) fun _ => Nz.bind (Nz.ite (dZ (he 1) _ _) (Nz.ok _)) fun _ => rK (fun _ => h2 _ _ _) _)
theorem uD (F : Nd) : ∀ (T : Nd), (∀ cx s, Nz ((b7 F T).st cx s)) ∧ (∀ cx s, Nz ((b7 F T).sts cx s)) ∧ (∀ b cx s, Nz ((b7 F T).cs b cx s))
  | .nil => ⟨fun _ _ => Nz.ok _, fun _ _ => Nz.ok _, fun _ _ _ => Nz.ok _⟩
  | .mk k n name len kids =>
    ⟨fun cx s => Rv F k name len _ _ _ (fun i => DF F (kids i)) (fun i => (uD F (kids i)).1) (fun i => (uD F (kids i)).2.2) cx s,
     fun cx s => yU len _ (fun i => (uD F (kids i)).1) cx s,
     fun b cx s => Rw n name len _ _ (fun i => DF F (kids i)) (fun i => (uD F (kids i)).2.1) b cx s⟩
theorem Mj (F T : Nd) (X : List Int) : Nz (jc F T X) := by
 unfold jc
 exact Nz.bind (Nz.forN (fun i s => by unfold mH; exact Nz.ite (Nz.err (by decide)) (Nz.ok _)) _ _) fun _ => Nz.bind ((uD F _).2.1 _ _) fun _ => Nz.ite (Nz.err (by decide)) (Nz.ok _)
theorem DE (F : Nd) (i : Nat) (u : Unit) : Nz (dz F i u) := by unfold dz; exact Nz.ite (Nz.ok _) (Nz.err (by decide))
theorem DH (T : Nd) : Nz (dC T) := Nz.bind (Nz.forN (DE T) _ _) fun _ => Nz.forN (fun i => Mj T (T.kids i)) _ _
theorem BN {T : Nd} (h : ep T = 0) : dv T = true ∧ eD T = 0 ∧ (fI T).length = T.size := by
 unfold ep at h
 by_cases ht : dv T = true
 ·rw [if_pos ht] at h
  cases hM : dC T with
  |error p => rw [hM] at h; exact absurd h (DH T p hM)
  |ok X =>
   have hX : X.length = T.size := by
    have := tA ht lr X hM
    rw [this, lV]; omega
   exact ⟨ht, by unfold eD; rw [if_pos ht, hM], by unfold fI; rw [if_pos ht, hM]; exact hX⟩
 ·rw [if_neg ht] at h; omega
structure Spd (w : World) (T : Nd) (u : Value) (w' : World) : Prop where
 row : Row w.heap.size w'.heap.size w' T u
 fine : T.Fine
 cost : T.cost ≤ 1000030
 below : Below w.heap.size w w'
theorem wN (PR : PRC) (ca : Option Addr) (cn cc : Nat) (w : World) (dK : cn ≤ 1048576) (dJ : Bytes w.heap.size w ca cn) :
  Calls Tryz.prog 14 #[.slice ca cn cc] w fun e w' => ∃ T a c, e = .returned (T.val (.slice a T.len c)) ∧ Spd w T (.slice a T.len c) w' := by
 have fp := aa (bO w dL)
 have SA := aa (wS ca cn cc (w.alloc dL) dK (dJ.wide fp.out))
 have HZ := aa (heap_alloc_new w dL)
 have PA := aa PR
 rw [World.size_alloc] at SA
 unfold dL at SA
 clear dJ
 go_enter Tryz.func14, Tryz.ntmps14
 go_wp2_with fail
 refine SA.out.mono ?_
 rintro e w1 ⟨rfl, aD, hb1, eT⟩
 have HB01 := aa (fp.out.trans (hb1.mono (Nat.le_succ _)))
 have vN : Hid (w1.heap[w.heap.size]? = some dL) := (hb1.block _ (by omega)).trans HZ.out
 have bh := aa aD
 have hz1a : w.heap.size + 2 ≤ w1.heap.size := by omega
 clear hb1 eT aD HZ fp
 go_wp2_with fail
 refine (PA.out _ 0 _ (by omega) bh.out).mono ?_
 rintro e w2 ⟨T, a, c, rfl, hd⟩
 have ed := hd.kp.size
 have tR : T.size ≤ 600 := by have h := (BN hd.ok).1; unfold dv at h; simp only [Bool.and_eq_true, decide_eq_true_eq] at h; exact h.1.1.1.1
 have SPA := aa (wO T (w.heap.size + 1) (0 + 7000000) w1.heap.size w2.heap.size w2 a c (by omega) hd.src (by omega) ed lr hd.fine tR hd.cost hd.row)
 have Qg := hd.cost
 have rp := aa hd.kp
 clear hd bh
 unfold Nd.val at *
 go_wp2_with fail
 refine SPA.out.mono ?_
 rintro e w3 ⟨T', a', c', rfl, te⟩
 have Cd := te.kp.size
 have gK : Hid (w3.heap[w.heap.size]? = some dL) := (te.kp.block _ (by omega) (by omega)).trans ((rp.out.block _ (by omega) (by omega)).trans vN.out)
 have eB : Hid (Below w.heap.size w w3) := by
  have h01 := HB01.out
  have jL := rp.out
  refine ⟨te.kp.os.trans (jL.os.trans h01.os), te.kp.tape.trans (jL.tape.trans h01.tape), te.kp.output.trans (jL.output.trans h01.output), by omega, fun k hk => (te.kp.block k (by omega) (by omega)).trans ((jL.block k (by omega) (by omega)).trans (h01.block k hk))⟩
 have HR := aa te.row.row
 have HF := aa te.fine
 have HK := aa (Nat.le_trans te.cost (by omega : T.cost + 30 ≤ 1000030))
 obtain ⟨c0, c1, c2, c3, c4⟩ := pv gK.out
 clear te
 go_wp2
 refine bodyPost_ret (v := .agg #[.int .i64 T'.kind, .int .i64 T'.num, .string T'.name, .slice a' T'.len c']) (wU gK.out Tryz.results14 rfl T'.kind T'.num T'.name (.slice a' T'.len c')) rfl ⟨T', a', c', rfl, ?_, HF.out, HK.out, wW eB.out _ _ _ _⟩
 have hs := fb w3 w.heap.size T'.kind T'.num T'.name (.slice a' T'.len c')
 exact aO (dc lr lr (fun g o h1 h2 => World.cell?_of_block (a := ⟨g, o, none⟩) (eh w3 w.heap.size T'.kind T'.num T'.name (.slice a' T'.len c') g (by omega))) HR.out) (by omega) (Nat.le_of_eq hs.symm)
section
open Go Go.RowKit
def Cz (i : Nat) : Nat := [32, 33, 34, 35, 36, 37, 38, 39, 40, 41, 42, 43, 44, 45, 46, 47, 48, 49, 50, 51, 52, 53, 54, 55, 56, 2].getD i 2000
theorem Kq (i j : Nat) (hi : i < 26) (hj : j < 26) (h : Cz i = Cz j) : i = j := by
 have : ((List.range 26).all fun i => (List.range 26).all fun j => Cz i != Cz j || i == j) = true := by decide
 exact bf1
theorem PW (i : Nat) (hi : i < 26) : Cz i < 57 := by
 have : ((List.range 26).all fun i => decide (Cz i < 57)) = true := by decide
 simpa using List.all_eq_true.1 this i (List.mem_range.2 hi)
theorem mU (s : Nat) (h : ((List.range 26).all fun i => decide (Cz i ≠ s)) = true) (i : Nat) (hi : i < 26) : s ≠ Cz i := by
 have h3 := List.all_eq_true.1 h i (List.mem_range.2 hi)
 simp at h3
 exact fun e => h3 e.symm
theorem xm (PR : PRC) (ca : Option Addr) (cn cc : Nat) (w : World) (hn : cn ≤ 9223372036854775807) (dJ : Bytes w.heap.size w ca cn) (ht : qD w) (hg : ErrG w) :
  Calls Tryz.prog 4 #[.slice ca cn cc] w fun e w' => e = .returned (.bool true) ∧ Below w.heap.size w w' := by
 by_cases hc : cn ≤ 1048576
 ·have PT := aa (wN PR ca cn cc w hc dJ)
  have HT := aa ht
  have HG := aa hg
  have TL : ¬ (1048576 : Int) < (cn : Int) := by omega
  have bH := jK
  clear dJ ht hg PR
  go_enter Tryz.func4, Tryz.ntmps4
  go_wp2_with fail
  refine PT.out.mono ?_
  rintro e w1 ⟨T, a, c, rfl, hp⟩
  have eT := hp.below.size
  have fr : T.cost ≤ 1048576 := Nat.le_trans hp.cost (by omega)
  have Cr := aa hp.below
  have IC := aa (fun W (hb : Below w1.heap.size w1 W) => xt T W (.slice a T.len c) hp.fine (aO (ah hb lr hp.row) (Nat.zero_le _) hb.size) fr (eR HT.out (hp.below.trans (hb.mono eT))) (HG.out.later (hp.below.trans (hb.mono eT))))
  have SC := aa (fun W (hb : Below w1.heap.size w1 W) => wR T W (.slice a T.len c) W.heap.size hp.fine lr (aO (ah hb lr hp.row) (Nat.zero_le _) hb.size) fr)
  have IT := aa (fun W (hb : Below w1.heap.size w1 W) => xq T W (.slice a T.len c) hp.fine (aO (ah hb lr hp.row) (Nat.zero_le _) hb.size) fr (eR HT.out (hp.below.trans (hb.mono eT))) (HG.out.later (hp.below.trans (hb.mono eT))))
  have IM := aa (fun W (hb : Below w1.heap.size w1 W) => rP T W (.slice a T.len c) hp.fine (aO (ah hb lr hp.row) (Nat.zero_le _) hb.size) fr (eR HT.out (hp.below.trans (hb.mono eT))))
  have SM := aa (fun W (hb : Below w1.heap.size w1 W) => rD T W (.slice a T.len c) W.heap.size hp.fine lr (aO (ah hb lr hp.row) (Nat.zero_le _) hb.size))
  rw [ue] at IM
  clear hp HT HG PT fr
  generalize ep T = cd at *
  generalize eD T = pl at *
  generalize dv T = tb at *
  generalize fI T = xs at *
  unfold Nd.val at *
  have oP := aa (bO w1 (nO T (.slice a T.len c)))
  have F1 : Hid (Four (w1.alloc (nO T (.slice a T.len c))) w1.heap.size (.int .i64 T.kind) (.int .i64 T.num) (.string T.name) (.slice a T.len c)) := Four.new w1 _ _ _ _ _
  go_wp2_with fail
  refine (IC.out _ oP.out).mono ?_
  rintro e w2 ⟨rfl, ba⟩
  have ed := ba.size
  simp only [World.size_alloc] at ed
  have B2 := aa (oP.out.trans (ba.mono (by simp)))
  have F2 := aa (F1.out.keep ba (by simp))
  clear ba F1 oP IC
  obtain ⟨p0, p1, p2, p3⟩ := F2.out
  go_wp2_with fail
  refine (SC.out _ B2.out).mono ?_
  rintro e w3 ⟨rfl, cZ⟩
  have Cd := cZ.size
  have B3 := aa (B2.out.trans (cZ.mono (by omega)))
  have F3 := aa (F2.out.keep cZ (by omega))
  clear cZ F2 B2 p0 p1 p2 p3 SC
  obtain ⟨p0, p1, p2, p3⟩ := F3.out
  go_wp2_with fail
  refine (IT.out _ B3.out).mono ?_
  rintro e w6 ⟨tv, rfl, ho3, kL⟩
  obtain ⟨ga, gc, rfl, _, _⟩ := gg ho3
  have KL := kL.size
  have B6 := aa (B3.out.trans (kL.mono (by omega)))
  have F6 := aa (F3.out.keep kL (by omega))
  have MY : w1.heap.size < w6.heap.size := by omega
  clear kL F3 B3 p0 p1 p2 p3 ho3 IT
  go_wp2_with fail
  obtain ⟨fV, hfV⟩ : ∃ f : Nat → Value, f = fun i => match i with
   |0 => .int .i64 cd | 1 => .int .i64 cd | 2 => .bool true | 3 => .bool true | 4 => .int .i64 pl | 5 => .int .i64 pl | 6 => .bool true | 7 => .bool true | 8 => .bool true | 9 => .int .i64 cd | 10 => .int .i64 cd | 11 => .bool true | 12 => .bool true | 13 => .bool true | 14 => .int .i64 pl | 15 => .int .i64 pl | 16 => .bool true | 17 => .bool true | 18 => .bool true | 19 => .agg #[.int .i64 T.kind, .int .i64 T.num, .string T.name, .slice a T.len c] | 20 => .bool tb | 21 => .agg #[.int .i64 T.kind, .int .i64 T.num, .string T.name, .slice a T.len c] | 22 => .bool tb | 23 => .bool true | 24 => .bool true | 25 => .bool true | _ => undef := ⟨_, rfl⟩
  have mB := aa hfV
  clear hfV
  refine fL bH (by kernel_rfl) Cz (Vf 26 fV) (fun _ v => Below w6.heap.size w6 v) ((Below.refl _ _).drew) ?_ ?_
  ·intro listed a' v i hI hr
   have zl : i < 26 := (bj hr).1
   have hS := hI.s
   have iu := aa hS
   have b6 := aa (fun (i : Nat) (hi : i < 26) (v' : World) (hb : Below v.heap.size v v') (x : Value) (hx : x = fV i) => hI.put (w' := v') Kq PW (fun _ _ h => h) (hS.trans (hb.mono hS.size)) (show i < 26 from hi) (v := x) (fun _ => hx))
   have bC := aa (fun (j : Nat) (hj : j < 26) (hl : listed.getD j false = true) => hI.vals j (show j < 26 from hj) (nt hl) hj)
   have VD := aa (fun (j : Nat) (hj : j < 26) (hl : listed.getD j false = true) => (bC.out j hj hl).trans (congrFun mB.out j))
   have bc := aa (fun o (ho : _ = some o) => nR hr (o := o) ho)
   have s3 : a'.tmps[3]?.getD undef = .pointer (some ⟨w1.heap.size, 0, none⟩) := ab (hI.keep 3 (mU 3 (by decide)))
   have s4 : a'.tmps[4]?.getD undef = .int .i64 cd := ab (hI.keep 4 (mU 4 (by decide)))
   have s6 : a'.tmps[6]?.getD undef = .int .i64 cd := ab (hI.keep 6 (mU 6 (by decide)))
   have s5 : a'.tmps[5]?.getD undef = .int .i64 pl := ab (hI.keep 5 (mU 5 (by decide)))
   have s7 : a'.tmps[7]?.getD undef = .int .i64 pl := ab (hI.keep 7 (mU 7 (by decide)))
   have s9 : a'.tmps[9]?.getD undef = .int .i64 cd := ab (hI.keep 9 (mU 9 (by decide)))
   have s10 : a'.tmps[10]?.getD undef = .int .i64 pl := ab (hI.keep 10 (mU 10 (by decide)))
   clear hI hr hS
   rcases (by omega : i = 0 ∨ i = 1 ∨ i = 2 ∨ i = 3 ∨ i = 4 ∨ i = 5 ∨ i = 6 ∨ i = 7 ∨ i = 8 ∨ i = 9 ∨ i = 10 ∨ i = 11 ∨ i = 12 ∨ i = 13 ∨ i = 14 ∨ i = 15 ∨ i = 16 ∨ i = 17 ∨ i = 18 ∨ i = 19 ∨ i = 20 ∨ i = 21 ∨ i = 22 ∨ i = 23 ∨ i = 24 ∨ i = 25) with rfl | rfl | rfl | rfl | rfl | rfl | rfl | rfl | rfl | rfl | rfl | rfl | rfl | rfl | rfl | rfl | rfl | rfl | rfl | rfl | rfl | rfl | rfl | rfl | rfl | rfl
   ·refine cS rfl rfl ?_
    go_simp
    exact b6.out 0 (by omega) v (Below.refl _ _) _ (congrFun mB.out 0).symm
   ·refine cS rfl rfl ?_
    go_simp
    exact b6.out 1 (by omega) v (Below.refl _ _) _ (congrFun mB.out 1).symm
   ·refine cS rfl rfl ?_
    have h32 := ab (show a'.eval (.tmp 32) = .int .i64 cd from VD.out 0 (by omega) (bc.out _ rfl ⟨0, Ground.data⟩ (by simp) rfl))
    have h33 := ab (show a'.eval (.tmp 33) = .int .i64 cd from VD.out 1 (by omega) (bc.out _ rfl ⟨1, Ground.data⟩ (by simp) rfl))
    go_simp
    exact b6.out 2 (by omega) v (Below.refl _ _) _ (congrFun mB.out 2).symm
   ·refine cS rfl rfl ?_
    have h34 := ab (show a'.eval (.tmp 34) = .bool true from VD.out 2 (by omega) (bc.out _ rfl ⟨2, Ground.data⟩ (by simp) rfl))
    go_simp
    exact b6.out 3 (by omega) v (Below.refl _ _) _ (congrFun mB.out 3).symm
   ·have k_f9_0 := kk
    exact bf9
   ·have k_f9_1 := kk
    exact bf9
   ·have k_f9_2 := kk
    exact bf9
   ·refine cS rfl rfl ?_
    have h35 := ab (show a'.eval (.tmp 35) = .bool true from VD.out 3 (by omega) (bc.out _ rfl ⟨3, Ground.data⟩ (by simp) rfl))
    have h38 := ab (show a'.eval (.tmp 38) = .bool true from VD.out 6 (by omega) (bc.out _ rfl ⟨6, Ground.data⟩ (by simp) rfl))
    go_simp
    exact b6.out 7 (by omega) v (Below.refl _ _) _ (congrFun mB.out 7).symm
   ·refine cS rfl rfl ?_
    have h39 := ab (show a'.eval (.tmp 39) = .bool true from VD.out 7 (by omega) (bc.out _ rfl ⟨7, Ground.data⟩ (by simp) rfl))
    go_simp
    exact b6.out 8 (by omega) v (Below.refl _ _) _ (congrFun mB.out 8).symm
   ·have k_f10_0 := kk
    exact bf10
   ·have k_f10_1 := kk
    exact bf10
   ·have k_f10_2 := kk
    exact bf10
   ·refine cS rfl rfl ?_
    have h40 := ab (show a'.eval (.tmp 40) = .bool true from VD.out 8 (by omega) (bc.out _ rfl ⟨8, Ground.data⟩ (by simp) rfl))
    have h43 := ab (show a'.eval (.tmp 43) = .bool true from VD.out 11 (by omega) (bc.out _ rfl ⟨11, Ground.data⟩ (by simp) rfl))
    go_simp
    exact b6.out 12 (by omega) v (Below.refl _ _) _ (congrFun mB.out 12).symm
   ·refine cS rfl rfl ?_
    have h44 := ab (show a'.eval (.tmp 44) = .bool true from VD.out 12 (by omega) (bc.out _ rfl ⟨12, Ground.data⟩ (by simp) rfl))
    go_simp
    exact b6.out 13 (by omega) v (Below.refl _ _) _ (congrFun mB.out 13).symm
   ·have k_f7_0 := kk
    exact bf7
   ·have k_f7_1 := kk
    exact bf7
   ·have k_f7_2 := kk
    exact bf7
   ·refine cS rfl rfl ?_
    have h45 := ab (show a'.eval (.tmp 45) = .bool true from VD.out 13 (by omega) (bc.out _ rfl ⟨13, Ground.data⟩ (by simp) rfl))
    have h48 := ab (show a'.eval (.tmp 48) = .bool true from VD.out 16 (by omega) (bc.out _ rfl ⟨16, Ground.data⟩ (by simp) rfl))
    go_simp
    exact b6.out 17 (by omega) v (Below.refl _ _) _ (congrFun mB.out 17).symm
   ·refine cS rfl rfl ?_
    have h49 := ab (show a'.eval (.tmp 49) = .bool true from VD.out 17 (by omega) (bc.out _ rfl ⟨17, Ground.data⟩ (by simp) rfl))
    go_simp
    exact b6.out 18 (by omega) v (Below.refl _ _) _ (congrFun mB.out 18).symm
   ·have k_f4_0 := kk
    exact bf4
   ·have k_f8_0 := kk
    exact bf8
   ·have k_f4_1 := kk
    exact bf4
   ·have k_f8_1 := kk
    exact bf8
   ·have k_f8_2 := kk
    exact bf8
   ·refine cS rfl rfl ?_
    have h50 := ab (show a'.eval (.tmp 50) = .bool true from VD.out 18 (by omega) (bc.out _ rfl ⟨18, Ground.data⟩ (by simp) rfl))
    have h55 := ab (show a'.eval (.tmp 55) = .bool true from VD.out 23 (by omega) (bc.out _ rfl ⟨23, Ground.data⟩ (by simp) rfl))
    go_simp
    exact b6.out 24 (by omega) v (Below.refl _ _) _ (congrFun mB.out 24).symm
   ·refine cS rfl rfl ?_
    have h56 := ab (show a'.eval (.tmp 56) = .bool true from VD.out 24 (by omega) (bc.out _ rfl ⟨24, Ground.data⟩ (by simp) rfl))
    go_simp
    exact b6.out 25 (by omega) v (Below.refl _ _) _ (congrFun mB.out 25).symm
  ·intro a' v b8 jv cz mr ee
   obtain ⟨listed, th, kC, bl⟩ := mr
   rw [eJ (n := 26) b8 jv cz]
   have hff : ∀ i, i < 26 → a'.eval (.tmp (Cz i)) = fV i := fun i hi => ee i hi hi
   generalize hgf : (fun i => a'.eval (.tmp (Cz i))) = ff
   have TC : ∀ i, i < 26 → ff i = fV i := fun i hi => by rw [← hgf]; exact hff i hi
   have QM : ff 25 = .bool true := (TC 25 (by decide)).trans (congrFun mB.out 25)
   clear b8 jv cz ee bl th hff hgf TC
   simp only [ig, Act.put, Cz, List.getD_cons_zero, List.getD_cons_succ, List.setIfInBounds_toArray, List.set_cons_succ, List.set_cons_zero, QM]
   clear QM mB
   have B7 := aa (Cr.out.trans ((B6.out.trans (kC.mono (by omega))).mono eT))
   go_wp2
   go_ret
   exact ⟨rfl, B7.out⟩
 ·have TL : (1048576 : Int) < (cn : Int) := by omega
  clear dJ ht hg PR
  go_enter Tryz.func4, Tryz.ntmps4
  go_wp2
  go_ret
  exact ⟨rfl, Below.refl _ _⟩
end
section
open Go.RowKit Go.ChangeShapes Go.WideShapes
theorem xe {H : Type} {enc : TypeId × Value → H} {P : Program} {W : World} {sp : Nat → Bool} {held : Bool} {t e : TypeId} {fuel : Nat} {d : Value} {x : DataW H × List MemPlace} (ht : P.underlying t = some (.slice e)) (he : P.underlying e = some (.int .u8)) (ce : P.cellsOf e = 1)
  (h : DataW.trod enc P W 0 sp held fuel t [d] = some x) : ∃ ca cn cc, d = .slice ca cn cc ∧ cn ≤ 9223372036854775807 ∧ Bytes W.heap.size W ca cn := by
 rcases DataW.trod_slice ht h with ⟨e3, _⟩ | ⟨ad, len, cap, elems, rest, q, hq, e3, _, _, IB, jw, TE, IV, _, _⟩
 ·obtain rfl : d = .slice none 0 0 := by simpa using e3
  exact ⟨none, 0, 0, rfl, by omega, .inl rfl⟩
 ·obtain rfl : d = .slice (some ad) len cap := by simpa using e3
  unfold maxLen at jw
  refine ⟨some ad, len, cap, rfl, by omega, ?_⟩
  by_cases h0 : len = 0
  ·exact .inl h0
  ·have hk : ∀ i, i < len → ∃ b : Nat, b < 256 ∧ W.cells? 0 (ad.add (i * 1)) 1 = some [.int .u8 (b : Int)] := by
    intro i hi
    have := IV i hi
    rw [ce, List.getElem?_eq_getElem (by omega : i < elems.length), Option.bind_eq_some_iff] at this
    obtain ⟨cs', wg, htr⟩ := this
    obtain ⟨z, e0, _, w0⟩ := DataW.trod_int he htr
    rw [e0] at wg
    have w1 : 0 ≤ z ∧ z ≤ 255 := by simpa [Lit.wf, IntKind.min, IntKind.max, IntKind.signed, IntKind.bits] using w0
    exact ⟨z.toNat, by omega, by rw [show ((z.toNat : Nat) : Int) = z by omega]; exact wg⟩
   obtain ⟨b0, _, ja⟩ := hk 0 (by omega)
   have fs := (World.cells?_some ja).2.2 0 (by omega)
   have e : (ad.add (0 * 1)).add 0 = ad := by simp [Addr.add]
   rw [e] at fs
   have had := AJ fs
   refine .inr ⟨ad.block, ad.off, by rw [← had], Jn fs, fun i hi => ?_⟩
   obtain ⟨b, hb, hbc⟩ := hk i hi
   have TL := (World.cells?_some hbc).2.2 0 (by omega)
   rw [vH (vH had (i * 1)) 0] at TL
   exact ⟨b, hb, by simpa using TL⟩
end
section
namespace Tr
open Go.ChangeShapes Go.WideShapes Go.ChangeAt Go.WideMaps Go.WideElems Go.RowKit
theorem prc : PRC := fun sb A w hA h => (xb 46184 233000 30 (by omega) (by omega) (by omega) bd_2 sb A w (by omega) h).mono fun e w' ⟨T, a, c, he, hd⟩ => ⟨T, a, c, he, hd.more (by omega)⟩
theorem lifted (os : Os) (started : os.Started) (H : Type) (enc : TypeId × Value → H) :
  ReturnsInHanded {} Tryz.checked os 4 .any (fun w args => (Rows.fnFaultsSpec.pre enc Tryz.prog Tryz.f4 [] false w args ∧ laidMetH Tryz.prog laid w) ∧ sizedMet enc Tryz.prog Tryz.f4 (OpenSpec.ofChange Rows.fnFaultsSpec) false w args)
   (Rows.fnFaultsSpec.post enc Tryz.prog Tryz.f4 false true false false) := by
 refine returnsInHanded_of_change_and (C := Tryz.checked) (X := fun w _ => laidMetH Tryz.prog laid w) (fun _ _ _ hh h => h.of_heap hh) own started (by kernel_rfl) Tryz.func4
  (ChangeSpec.witness_shaped (enc := enc) (C := Tryz.checked) (os := os) (X := fun w _ => laidMetH Tryz.prog laid w) false (World.doorLaid Tryz.prog 400 os) #[.slice none 0 0] 8 rfl (World.shaped_of_RefB (by kernel_rfl) (by kernel_rfl)) (by kernel_rfl) (by kernel_rfl) (by kernel_rfl) (door_met os _)) ?_
 intro W base args ds gs before Sl hW _ _ hL _
 have Sm : ∀ (j : Nat) t v, Tryz.f4.params[j]? = some t → args[j]? = some v → Value.okWide Tryz.prog W .any base t v := Sl
 have hW' := hW
 obtain ⟨p, q, hA0, hV, rfl, hfz, hnd⟩ := hW
 have hA : DataW.TrodAll enc Tryz.prog W 0 (fun _ => true) true Tryz.f4.params.toList args.toList ds p := hA0
 rw [Tryz.params4] at hA Sm
 obtain ⟨v0, vs0, d0, ds0, p0, q0, hargs, rfl, rfl, h0, r0⟩ := trodAll_cons hA
 obtain ⟨rfl, rfl, rfl⟩ := trodAll_nil r0
 obtain rfl : args = #[v0] := by cases args; simp_all
 obtain ⟨d1, d2, d3, rfl⟩ := three gs (show gs.length = 3 from vars_len hV)
 obtain ⟨fuel, hfu⟩ := h0
 obtain ⟨va, vl, vc, rfl⟩ := okWide_slice Tryz.underlying22 (Sm 0 22 v0 rfl rfl)
 have bM : (Value.slice va vl vc).cells.toList = [.slice va vl vc] := rfl
 rw [bM] at hfu
 obtain ⟨ca, cn, cc, rR, hn, Qh⟩ := xe Tryz.underlying22 Tryz.underlying5 (by kernel_rfl) hfu
 rw [rR]
 rw [rR] at hW'
 refine (xm prc ca cn cc W hn Qh (of_laid hL).1 (of_laid hL).2).mono fun e W' ⟨he, hb⟩ => ?_
 subst he
 exact ⟨_, rfl, DY laidOut Tryz.underlying4 (by kernel_rfl) (by kernel_rfl) (by kernel_rfl) rfl hW' hb⟩
theorem said : Rows.FnFaultsSaid :=
 OpenClaim.holds_of_wide 4 Tryz.f4 rfl rfl rfl rfl rfl rfl rfl ⟨rfl, rfl, rfl, rfl, rfl⟩ rfl rfl rfl rfl rfl (by kernel_rfl) Tryz.func4 (by kernel_rfl)
  (of_decide_eq_true (by kernel_rfl)) (by unfold Func.isWrapper; first | (rw [if_pos (by decide +kernel)]; kernel_rfl) | (rw [if_neg (by decide +kernel)]; exact ⟨rfl, rfl⟩))
  (fun os started H enc _ => lifted os started H enc)
theorem plain (f : FuncId) (fn : Func) (hf : Tryz.pinned.checked.prog.funcNamed "loop.example/g00135/laws.FnFaults" = some f) (Nw : Tryz.pinned.checked.prog.funcs[f]? = some fn) :
  true = Tryz.pinned.checked.prog.looks [] ∧ ∀ (j : Nat) t, fn.params[j]? = some t → Tryz.pinned.checked.prog.wantsStandIn t = false := by
 obtain rfl : f = 4 := Option.some.inj ((show Tryz.prog.funcNamed "loop.example/g00135/laws.FnFaults" = some 4 by kernel_rfl).symm.trans hf) |>.symm
 obtain rfl : fn = Tryz.f4 := (Option.some.inj (Tryz.func4.symm.trans Nw)).symm
 refine ⟨by kernel_rfl, fun j t ht => ?_⟩
 rw [Tryz.params4] at ht
 obtain rfl : t = 22 := by simpa using Array.mem_of_getElem? ht
 exact (show Tryz.prog.wantsStandIn 22 = false by kernel_rfl)
end Tr
theorem fnFaults_card : Rows.FnFaultsCardSaid :=
 Claim7.holds_tied_plain_at .later [] _ _ _ _ Tr.said (fun _ h => by cases h) (by kernel_rfl) (fun _ h => by cases h) fnFaults_row_tie rfl ⟨rfl, rfl⟩ (by kernel_rfl) rfl Tr.plain (by kernel_rfl)
#print axioms fnFaults_card
end
end Go.Proofs.YteaocammohcgoaaGreatDoor
