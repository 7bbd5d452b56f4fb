/- Judge of both sides. -/
import Derived.Test.YtnjidekfmmebiaaDoorJdApp
import Derived.Test.YtnjidekfmmebiaaDoorSwImpl
import Derived.Lib.SliceRun
set_option linter.unusedVariables false
namespace Go.Proofs.YtnjidekfmmebiaaDoor
open Go.RowKit

/-- The script of the k-th. -/
def scAt (ss : List Sn) (k : Nat) : List Int := match ss[k]? with | some s => s.sc | none => []
/-- What Judge answers: the verdict and the script. -/
def judgeV (B M : Rp) : Int := if B.ex = false then 0 else match miss M.ls B.ls with | some _ => 1 | none => if M.ex = true then 2 else 0
def judgeS (B M : Rp) : List Int := if B.ex = false then [] else match miss M.ls B.ls with | some k => scAt M.ls k | none => []
theorem miss_lt {xs ys : List Sn} {k : Nat} (h : miss xs ys = some k) : k < xs.length := by
  unfold miss at h
  rw [List.findIdx?_eq_some_iff_getElem] at h
  exact h.1
theorem sc_at {ss : List Sn} {k : Nat} (h : k < ss.length) : scAt ss k = (ss[k]).sc := by unfold scAt; simp [h]
theorem new_none (W W' : World) (a : Option Addr) (c : Nat) : Il W.heap.size W'.heap.size W' [] (.slice a 0 c) := ⟨a, c, rfl, .inl rfl⟩

theorem wpList_append_run {P : Program} (w : World) {ops : Array Oper} {rest : List Oper} {o : Oper} {a : Act} {Q : Exit → Act → World → Prop} (hgd : o.guard = none) (sl x : Operand) (t : TypeId)
    (ho : o.op = .call { callee := .builtin .append, args := #[sl, x], argTypes := #[t, t] }) (v xv v' : Value) (w' : World) (hs : a.eval sl = v) (hx : a.eval x = xv) (hr : ∀ ty, (Builtin.append_ #[t, t] ty #[v, xv]).run P w = .ok v' w')
    (h : wpList P ops Q rest (a.put o.dst v') w') : wpList P ops Q (o :: rest) a w := by
  refine wpList_plain hgd fun K hK => ?_
  unfold Oper.wp execOp
  simp only [ho, resolve, invoke, builtin, Sem.run_bind, Sem.run_pure, Result.andThen_ok, List.map_toArray, List.map_cons, List.map_nil, hs, hx, hr]
  exact hK _ _ h
theorem two_boxes (w : World) (x0 x1 x2 y0 y1 y2 : Value) (t t' : TypeId) : Tri ((w.alloc (.cells #[x0, x1, x2] t)).alloc (.cells #[y0, y1, y2] t')) w.heap.size x0 x1 x2 ∧ Tri ((w.alloc (.cells #[x0, x1, x2] t)).alloc (.cells #[y0, y1, y2] t')) (w.heap.size + 1) y0 y1 y2 := by
  unfold Tri
  simp [go_sem]
theorem Tri.alloc {W : World} {b : Nat} {x0 x1 x2 : Value} (h : Tri W b x0 x1 x2) (hb : b < W.heap.size) (o : Obj) : Tri (W.alloc o) b x0 x1 x2 := h.keep ((Below.refl W.heap.size W).alloc (Nat.le_refl _) o) hb

set_option maxHeartbeats 8000000 in
set_option maxRecDepth 100000 in
theorem spec_judge (B M : Rp) (u v : Value) (la ha lb hb : Nat) (w : World) (hc : costS B.ls ≤ 1048576) (hd : costS M.ls ≤ 1048576) (hha : ha ≤ w.heap.size) (hhb : hb ≤ w.heap.size) (h : Rw la ha w B.ls u) (h' : Rw lb hb w M.ls v) :
    Calls Tryd.prog 11 #[B.val u, M.val v] w fun e w' => ∃ sv, e = .returned (.tuple #[.int .i64 (judgeV B M), sv]) ∧ Il w.heap.size w'.heap.size w' (judgeS B M) sv ∧ Below w.heap.size w w' := by
  have C := hid_mk (fun W (hW : Below w.heap.size w W) => spec_missing M.ls B.ls v u lb hb la ha W hd hc (by have := hW.size; omega) (by have := hW.size; omega) (h'.below hW hhb) (h.below hW hha))
  have HM := hid_mk h'
  obtain ⟨a, ca, rfl⟩ := h.shape
  obtain ⟨b, cb, rfl⟩ := h'.shape
  have hl20 : M.ls.length ≤ 1048576 := Nat.le_trans (len_cost _) hd
  have HD := hid_mk (fun i (hi : i < M.ls.length) => Nat.le_trans (cost_at M.ls i hi) hd)
  clear h h' hc hd
  unfold Rp.val
  have B0 := hid_mk (fun o o' : Obj => ((Below.refl w.heap.size w).alloc (Nat.le_refl _) o).alloc (by simp) o')
  cases hex : B.ex with
  | false =>
    have e1 : judgeV B M = 0 := by unfold judgeV; rw [if_pos hex]
    have e2 : judgeS B M = [] := by unfold judgeS; rw [if_pos hex]
    rw [e1, e2]
    clear e1 e2 hex C HM HD
    go_enter Tryd.func11, Tryd.ntmps11
    go_wp2
    refine bodyPost_ret (v := .tuple #[.int .i64 0, .slice (some ⟨w.heap.size + 1 + 1, 0, none⟩) 0 0]) (by simp [results, Tryd.results11, go_sem]) rfl ⟨_, rfl, ⟨_, _, rfl, .inl rfl⟩, (B0.out _ _).alloc (by simp; omega) _⟩
  | true =>
    cases hm : miss M.ls B.ls with
    | none =>
      have e2 : judgeS B M = [] := by unfold judgeS; rw [if_neg (by simp [hex]), hm]
      rw [e2]
      unfold missI at C
      rw [hm] at C
      cases hmx : M.ex with
      | true =>
        have e1 : judgeV B M = 2 := by unfold judgeV; rw [if_neg (by simp [hex]), hm]; simp [hmx]
        rw [e1]
        clear e1 e2 hex hm hmx HM HD
        go_enter Tryd.func11, Tryd.ntmps11
        go_wp2_with (go_at_call 20; refine (C.out _ (B0.out _ _)).mono ?_; rintro e w1 ⟨rfl, hb1⟩; obtain ⟨m0, m1, m2⟩ := (two_boxes w _ _ _ _ _ _ _ _).2.keep hb1 (by simp); have B1 := hid_mk ((B0.out _ _).trans (hb1.mono (by simp; omega))); clear hb1)
        refine bodyPost_ret (v := .tuple #[.int .i64 2, .slice (some ⟨w1.heap.size, 0, none⟩) 0 0]) (by simp [results, Tryd.results11, go_sem]) rfl ⟨_, rfl, ⟨_, _, rfl, .inl rfl⟩, B1.out.alloc B1.out.size _⟩
      | false =>
        have e1 : judgeV B M = 0 := by unfold judgeV; rw [if_neg (by simp [hex]), hm]; simp [hmx]
        rw [e1]
        clear e1 e2 hex hm hmx HM HD
        go_enter Tryd.func11, Tryd.ntmps11
        go_wp2_with (go_at_call 20; refine (C.out _ (B0.out _ _)).mono ?_; rintro e w1 ⟨rfl, hb1⟩; obtain ⟨m0, m1, m2⟩ := (two_boxes w _ _ _ _ _ _ _ _).2.keep hb1 (by simp); have B1 := hid_mk ((B0.out _ _).trans (hb1.mono (by simp; omega))); clear hb1)
        refine bodyPost_ret (v := .tuple #[.int .i64 0, .slice (some ⟨w1.heap.size, 0, none⟩) 0 0]) (by simp [results, Tryd.results11, go_sem]) rfl ⟨_, rfl, ⟨_, _, rfl, .inl rfl⟩, B1.out.alloc B1.out.size _⟩
    | some k =>
      have e1 : judgeV B M = 1 := by unfold judgeV; rw [if_neg (by simp [hex]), hm]
      have e2 : judgeS B M = scAt M.ls k := by unfold judgeS; rw [if_neg (by simp [hex]), hm]
      have hlt := miss_lt hm
      rw [sc_at hlt] at e2
      rw [e1, e2]
      unfold missI at C
      rw [hm] at C
      clear e1 e2 hex hm
      have hk0 : (0 : Int) ≤ (k : Int) := by omega
      have hki : (k : Int) < (M.ls.length : Int) := by omega
      obtain ⟨_, _, hqe, hq⟩ := HM.out
      injection hqe with q1 _ q3
      subst q1 q3
      rcases hq with h0 | ⟨g, off, rfl, _, hg, h3⟩
      · omega
      obtain ⟨x, y, hf, hat⟩ := h3 k hlt
      obtain ⟨xa, xc, rfl⟩ := hat.1.shape
      obtain ⟨ya, yc, rfl⟩ := hat.2.shape
      have hsc : (M.ls[k]).sc.length ≤ 1048576 := by have := HD.out k hlt; unfold Sn.cost at this; omega
      have HF := hid_mk hf
      have HAT := hid_mk hat.2
      clear h3 hf hat
      generalize M.ls[k] = s at *
      go_enter Tryd.func11, Tryd.ntmps11
      go_wp2_with (first
        | (go_at_call 20; refine (C.out _ (B0.out _ _)).mono ?_; rintro e w1 ⟨rfl, hb1⟩; have hz1 := hb1.size; simp only [World.size_alloc] at hz1; have m012 := fun o => ((two_boxes w _ _ _ _ _ _ _ _).2.keep hb1 (by simp)).alloc (by omega) o; obtain ⟨m0, m1, m2⟩ := m012 (.cells #[] 3); have B1 := hid_mk (((B0.out _ _).trans (hb1.mono (by simp; omega))).alloc (by omega) (.cells #[] 3)); obtain ⟨f0, f1, f2, f3, f4⟩ := HF.out.keep B1.out (by omega); obtain ⟨v2, w2, hrun, hnew⟩ := app_ints s.sc _ _ _ _ hsc (HAT.out.below B1.out hhb) w1.heap.size; have HRUN := hid_mk hrun; have hil := hnew.il; obtain ⟨va, vc, hve⟩ := hil.shape; subst hve; have HIL := hid_mk (hil.wide (lo' := w.heap.size) B1.out.size (Nat.le_refl _)); have B2 := hid_mk (B1.out.trans (hnew.2.1.mono B1.out.size)); clear hb1 hrun hnew hil m012)
        | (at_builtin; refine wpList_append_run _ rfl _ _ 33 rfl _ _ _ _ rfl rfl HRUN.out ?_))
      refine bodyPost_ret (v := .tuple #[.int .i64 1, .slice va s.sc.length vc]) (by simp [results, Tryd.results11, go_sem]) rfl ⟨_, rfl, HIL.out, B2.out⟩

/-- A list of numbers of the call's own. -/
def Own (w w' : World) (xs : List Int) (v : Value) : Prop := ∃ lo hi, w.heap.size ≤ lo ∧ lo ≤ hi ∧ hi ≤ w'.heap.size ∧ Il lo hi w' xs v ∧ ∀ g o, lo ≤ g → g < hi → w'.frozen? ⟨g, o, none⟩ = false
theorem Own.none (w w' : World) (h : w.heap.size ≤ w'.heap.size) (a : Option Addr) (c : Nat) : Own w w' [] (.slice a 0 c) := ⟨w.heap.size, w.heap.size, Nat.le_refl _, Nat.le_refl _, h, ⟨a, c, rfl, .inl rfl⟩, fun g o h1 h2 => by omega⟩

set_option maxHeartbeats 4000000 in
theorem clone_ints (xs : List Int) (v : Value) (lo hi : Nat) (w : World) (hl : xs.length ≤ 1048576) (hhi : hi ≤ w.heap.size) (h : Il lo hi w xs v) :
    Calls Tryd.prog 24 #[v] w fun e w' => ∃ u, e = .returned u ∧ Own w w' xs u ∧ Below w.heap.size w w' := by
  have hnil : ∀ (w : World) (a : Option Addr) (n c n' c' : Nat), (binOp .eql 33 (.slice a n c) (.slice none n' c')).run Tryd.prog w = .ok (.bool a.isNone) w := fun w a n c n' c' => Lib.run_eql_slice_nil w _ _ a n c n' c' Tryd.underlying33
  have HI := hid_mk h
  obtain ⟨a, c, rfl⟩ := h.shape
  clear h
  cases a with
  | none =>
    have h0 : xs = [] := by
      obtain ⟨a', c', e, hq⟩ := HI.out
      injection e with e1 _ _
      subst e1
      rcases hq with h0 | ⟨g, off, e, _⟩
      · exact List.eq_nil_of_length_eq_zero h0
      · cases e
    subst h0
    go_enter Tryd.func24, Tryd.ntmps24
    go_wp2
    go_ret
    exact ⟨_, rfl, Own.none _ _ (Nat.le_refl _) _ _, Below.refl _ _⟩
  | some ad =>
    have B1 : Hid (Below w.heap.size w (w.alloc (.cells #[] 3))) := (Below.refl _ _).alloc (Nat.le_refl _) _
    obtain ⟨v2, w2, hrun, hnew⟩ := app_ints xs _ _ _ _ hl (HI.out.below B1.out hhi) w.heap.size
    have HRUN := hid_mk hrun
    obtain ⟨va, vc, hve⟩ := hnew.il.shape
    subst hve
    have HN := hid_mk hnew
    clear hrun hnew
    go_enter Tryd.func24, Tryd.ntmps24
    go_wp2_with (at_builtin; refine wpList_append_run _ rfl _ _ 33 rfl _ _ _ _ rfl rfl HRUN.out ?_)
    go_ret
    exact ⟨_, rfl, ⟨_, _, B1.out.size, HN.out.2.1.size, Nat.le_refl _, HN.out.il, fun g o h1 _ => HN.out.2.2 g o h1⟩, B1.out.trans (HN.out.2.1.mono B1.out.size)⟩

set_option maxHeartbeats 8000000 in
set_option maxRecDepth 100000 in
theorem impl_judge (B M : Rp) (u v : Value) (la ha lb hb : Nat) (w : World) (hx : OkS B.ls) (hy : OkS M.ls) (hc : costS B.ls ≤ 1048576) (hd : costS M.ls ≤ 1048576) (hha : ha ≤ w.heap.size) (hhb : hb ≤ w.heap.size) (h : Rw la ha w B.ls u) (h' : Rw lb hb w M.ls v) (hT : Tab w) :
    Calls Tryd.prog 13 #[B.val u, M.val v] w fun e w' => ∃ sv, e = .returned (.tuple #[.int .i64 (judgeV B M), sv]) ∧ Own w w' (judgeS B M) sv ∧ Below w.heap.size w w' := by
  have C := hid_mk (fun W (hW : Below w.heap.size w W) => impl_first M.ls B.ls v u lb hb la ha W hy hx hd hc (by have := hW.size; omega) (by have := hW.size; omega) (h'.below hW hhb) (h.below hW hha) (Tab.later (B := 0) hT hW))
  have HM := hid_mk h'
  obtain ⟨a, ca, rfl⟩ := h.shape
  obtain ⟨b, cb, rfl⟩ := h'.shape
  have hl20 : M.ls.length ≤ 1048576 := Nat.le_trans (len_cost _) hd
  have HD := hid_mk (fun i (hi : i < M.ls.length) => Nat.le_trans (cost_at M.ls i hi) hd)
  clear h h' hc hd hx hy hT
  unfold Rp.val
  have B0 := hid_mk (fun o o' : Obj => ((Below.refl w.heap.size w).alloc (Nat.le_refl _) o).alloc (by simp) o')
  cases hex : B.ex with
  | false =>
    have e1 : judgeV B M = 0 := by unfold judgeV; rw [if_pos hex]
    have e2 : judgeS B M = [] := by unfold judgeS; rw [if_pos hex]
    rw [e1, e2]
    clear e1 e2 hex C HM HD
    go_enter Tryd.func13, Tryd.ntmps13
    go_wp2
    refine bodyPost_ret (v := .tuple #[.int .i64 0, .slice none 0 0]) (by simp [results, Tryd.results13, go_sem]) rfl ⟨_, rfl, Own.none _ _ (B0.out _ _).size _ _, B0.out _ _⟩
  | true =>
    cases hm : miss M.ls B.ls with
    | none =>
      have e2 : judgeS B M = [] := by unfold judgeS; rw [if_neg (by simp [hex]), hm]
      rw [e2]
      unfold missI at C
      rw [hm] at C
      cases hmx : M.ex with
      | true =>
        have e1 : judgeV B M = 2 := by unfold judgeV; rw [if_neg (by simp [hex]), hm]; simp [hmx]
        rw [e1]
        clear e1 e2 hex hm hmx HM HD
        go_enter Tryd.func13, Tryd.ntmps13
        go_wp2_with (go_at_call 22; refine (C.out _ (B0.out _ _)).mono ?_; rintro e w1 ⟨rfl, hb1⟩; obtain ⟨m0, m1, m2⟩ := (two_boxes w _ _ _ _ _ _ _ _).2.keep hb1 (by simp); have B1 := hid_mk ((B0.out _ _).trans (hb1.mono (by simp; omega))); clear hb1)
        refine bodyPost_ret (v := .tuple #[.int .i64 2, .slice none 0 0]) (by simp [results, Tryd.results13, go_sem]) rfl ⟨_, rfl, Own.none _ _ B1.out.size _ _, B1.out⟩
      | false =>
        have e1 : judgeV B M = 0 := by unfold judgeV; rw [if_neg (by simp [hex]), hm]; simp [hmx]
        rw [e1]
        clear e1 e2 hex hm hmx HM HD
        go_enter Tryd.func13, Tryd.ntmps13
        go_wp2_with (go_at_call 22; refine (C.out _ (B0.out _ _)).mono ?_; rintro e w1 ⟨rfl, hb1⟩; obtain ⟨m0, m1, m2⟩ := (two_boxes w _ _ _ _ _ _ _ _).2.keep hb1 (by simp); have B1 := hid_mk ((B0.out _ _).trans (hb1.mono (by simp; omega))); clear hb1)
        refine bodyPost_ret (v := .tuple #[.int .i64 0, .slice none 0 0]) (by simp [results, Tryd.results13, go_sem]) rfl ⟨_, rfl, Own.none _ _ B1.out.size _ _, B1.out⟩
    | some k =>
      have e1 : judgeV B M = 1 := by unfold judgeV; rw [if_neg (by simp [hex]), hm]
      have e2 : judgeS B M = scAt M.ls k := by unfold judgeS; rw [if_neg (by simp [hex]), hm]
      have hlt := miss_lt hm
      rw [sc_at hlt] at e2
      rw [e1, e2]
      unfold missI at C
      rw [hm] at C
      clear e1 e2 hex hm
      have hk0 : ((k : Int) != -1) = true := by simp
      have hki : (k : Int) < (M.ls.length : Int) := by omega
      obtain ⟨_, _, hqe, hq⟩ := HM.out
      injection hqe with q1 _ q3
      subst q1 q3
      rcases hq with h0 | ⟨g, off, rfl, _, hg, h3⟩
      · omega
      obtain ⟨x, y, hf, hat⟩ := h3 k hlt
      obtain ⟨xa, xc, rfl⟩ := hat.1.shape
      obtain ⟨ya, yc, rfl⟩ := hat.2.shape
      have hsc : (M.ls[k]).sc.length ≤ 1048576 := by have := HD.out k hlt; unfold Sn.cost at this; omega
      have HF := hid_mk hf
      have HAT := hid_mk hat.2
      clear h3 hf hat
      generalize M.ls[k] = s at *
      go_enter Tryd.func13, Tryd.ntmps13
      go_wp2_with (first
        | (go_at_call 22; refine (C.out _ (B0.out _ _)).mono ?_; rintro e w1 ⟨rfl, hb1⟩; have hz1 := hb1.size; simp only [World.size_alloc] at hz1; obtain ⟨m0, m1, m2⟩ := (two_boxes w _ _ _ _ _ _ _ _).2.keep hb1 (by simp); have B1 := hid_mk ((B0.out _ _).trans (hb1.mono (by simp; omega))); obtain ⟨f0, f1, f2, f3, f4⟩ := HF.out.keep B1.out (by omega); have CL := hid_mk (clone_ints s.sc _ _ _ _ hsc (by omega) (HAT.out.below B1.out hhb)); clear hb1)
        | (go_at_call 24; refine CL.out.mono ?_; rintro e w2 ⟨u2, rfl, ho2, hb2⟩; obtain ⟨va, vc, hve⟩ : ∃ va vc, u2 = .slice va s.sc.length vc := by { obtain ⟨_, _, _, _, _, hil, _⟩ := ho2; exact hil.shape }; subst hve; have HO2 := hid_mk ho2; have B2 := hid_mk (B1.out.trans (hb2.mono B1.out.size)); clear ho2 hb2))
      refine bodyPost_ret (v := .tuple #[.int .i64 1, .slice va s.sc.length vc]) (by simp [results, Tryd.results13, go_sem]) rfl ⟨_, rfl, ?_, B2.out⟩
      obtain ⟨lo, hi, h1, h2, h3, h4, h5⟩ := HO2.out
      exact ⟨lo, hi, Nat.le_trans B1.out.size h1, h2, h3, h4, h5⟩
end Go.Proofs.YtnjidekfmmebiaaDoor
